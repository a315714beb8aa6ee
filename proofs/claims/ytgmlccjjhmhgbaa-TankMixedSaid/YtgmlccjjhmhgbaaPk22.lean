/- Several texts in one: TankPI, TankPJ, TankH, TankPK, TankU, TankT. -/
import Derived.Test.YtgmlccjjhmhgbaaPk21
import Derived.Test.YtgmlccjjhmhgbaaPk18
import Derived.Test.YtgmlccjjhmhgbaaPk19
/- The program: Draw. -/
namespace Go.Proofs.Ytgmlccjjhmhgbaa.Tank
open Go.ChangeShapes Go.WideShapes Go.RowKit Go.Lib
open Go.Proofs.Ytgmlccjjhmhgbaa.Rw (Rd Row Kd Off glt get_lt below_alloc bstep wrap_id below_drewN below_drew drew_below take_snoc_of)
set_option linter.unusedVariables false
set_option maxRecDepth 100000

/-- A tank, what was taken, an error. -/
def DrR (w : World) (err cap : Int) (P T : List Trip) (e : Ending) (w' : World) : Prop :=
  ∃ v A n c, e = .returned (.tuple #[v, .slice A n c, .int .i64 err]) ∧ InT w' v cap P ∧ n = T.length ∧ n ≤ 9223372036854775807 ∧ Rats w' A T ∧ Below w.heap.size w w'
theorem DrR.none_ {w w' : World} {err : Int} (hb : Below w.heap.size w w') : DrR w err 0 [] [] (.returned (.tuple #[.agg #[.int .i64 0, .slice none 0 0], .slice none 0 0, .int .i64 err])) w' := ⟨_, none, 0, 0, rfl, InT.zero _, rfl, by omega, Rats.nil _ _, hb⟩
theorem dr_no {cap : Int} {L : List Trip} {mass E : Int} (h : drE cap L mass = E) (h0 : ¬ E = 0) : drC cap L mass = 0 ∧ drT cap L mass = [] ∧ drP cap L mass = [] := by
  unfold drC drT drP
  rw [h, if_neg h0, if_neg h0, if_neg h0]; exact ⟨rfl, rfl, rfl⟩
theorem dr_yes {cap : Int} {L : List Trip} {mass : Int} (h : drE cap L mass = 0) : drC cap L mass = cap ∧ drT cap L mass = ts (drX L mass) ∧ drP cap L mass = ts (drY L mass) := by
  unfold drC drT drP
  rw [if_pos h, if_pos h, if_pos h]; exact ⟨rfl, rfl, rfl⟩
theorem drE_rng {cap : Int} {L : List Trip} {mass : Int} (h : ckT cap L = 0) (h2 : inM MM mass = false) : drE cap L mass = 1 := by
  unfold drE drM; rw [if_pos h, h2]; rfl
theorem drE_stock {cap : Int} {L : List Trip} {mass : Int} (h : ckT cap L = 0) (h2 : inM MM mass = true) (h3 : cap < mass ∨ 0 < cmpG (qI mass) (sumV L)) : drE cap L mass = 19 := by
  unfold drE drM; rw [if_pos h, if_pos h2, if_pos h3]
theorem drE_tk {cap : Int} {L : List Trip} {mass : Int} (h : ckT cap L = 0) (h2 : inM MM mass = true) (h3 : ¬ (cap < mass ∨ 0 < cmpG (qI mass) (sumV L))) : drE cap L mass = if mass = 0 then 0 else tkF (qI mass) (sumV L) (qs L) := by
  unfold drE drM; rw [if_pos h, if_pos h2, if_neg h3]
theorem drX_len (L : List Trip) (mass : Int) : (drX L mass).length = L.length := by unfold drX; rw [List.length_map, qs_len]
theorem drY_len (L : List Trip) (mass : Int) : (drY L mass).length = L.length := by unfold drY; rw [List.length_map, qs_len]
set_option maxHeartbeats 6400000 in
theorem p_Draw (cap : Int) (L : List Trip) (A : Option Addr) (n c : Nat) (hn : n = L.length) (mass : Int) (w : World) (ha : Rats w A L) (hm : n ≤ 9223372036854775807) :
    Calls Try.prog 6 #[.agg #[.int .i64 cap, .slice A n c], .int .i64 mass] w (DrR w (drE cap L mass) (drC cap L mass) (drP cap L mass) (drT cap L mass)) := by
  have HA := Lib.hid ha
  have KL := Lib.hid fun (W : World) (h : Rats W A L) => p_Level cap L A n c hn W h hm
  obtain ⟨E, hE⟩ : ∃ E, ckT cap L = E := ⟨_, rfl⟩
  obtain ⟨V, hV⟩ : ∃ V, sumV L = V := ⟨_, rfl⟩
  obtain ⟨G, hG⟩ : ∃ G, drE cap L mass = G := ⟨_, rfl⟩
  have hno := fun h => dr_no hG h
  have hyes := fun h : G = 0 => dr_yes (hG.trans h)
  obtain ⟨GC, hGC⟩ : ∃ GC, drC cap L mass = GC := ⟨_, rfl⟩
  obtain ⟨GT, hGT⟩ : ∃ GT, drT cap L mass = GT := ⟨_, rfl⟩
  obtain ⟨GP, hGP⟩ : ∃ GP, drP cap L mass = GP := ⟨_, rfl⟩
  rw [hGC, hGT, hGP] at hno hyes
  rw [hE, hV] at KL
  rw [hG, hGC, hGT, hGP]
  have HE := Lib.hid hE
  have HV := Lib.hid hV
  have HG := Lib.hid hG
  have NO := Lib.hid hno
  have YES := Lib.hid hyes
  have HN := Lib.hid hn
  clear ha hn hE hV hG hno hyes hGC hGT hGP hm
  go_enter Try.func6, Try.ntmps6
  go_upto_region 1 with fail
  obtain ⟨w0, hw0⟩ : ∃ W, ((w.alloc (.cells #[.int .i64 cap, .slice A n c] 24)).alloc (.cells #[.int .i64 mass] 3)).alloc (.cells #[.int .i64 0, .slice none 0 0] 24) = W := ⟨_, rfl⟩
  have C0 : Hid (Rw.Cel w0 w.heap.size [.int .i64 cap, .slice A n c]) := hw0 ▸ ((Rw.Cel.new w [_, _] _).alloc _).alloc _
  have M0 : Hid (Rw.Cel w0 (w.heap.size + 1) [.int .i64 mass]) := hw0 ▸ (Rw.Cel.new_at _ [_] _ (by simp)).alloc _
  have R0 : Hid (Rw.Cel w0 (w.heap.size + 2) [.int .i64 0, .slice none 0 0]) := hw0 ▸ Rw.Cel.new_at _ [_, _] _ (by simp)
  have B0 : Hid (Below w.heap.size w w0) := hw0 ▸ bstep (bstep (below_alloc _ _) (below_alloc _ _)) (below_alloc _ _)
  first | rw [hw0] | skip
  clear hw0
  obtain ⟨x0, x1⟩ := C0.out.two
  go_wp2_with fail
  refine (KL.out w0 (Rats.on HA.out B0.out)).mono ?_
  rintro e w1 h
  obtain ⟨b1, A1, n1, c1, B1, m1, e1, rfl, ho, hb⟩ := h.open_
  have O1 := Lib.hid ho
  have BB1 := Lib.hid (bstep B0.out hb)
  have C1 := Lib.hid (C0.out.on hb)
  have M1 := Lib.hid (M0.out.on hb)
  have R1 := Lib.hid (R0.out.on hb)
  clear h ho hb x0 x1
  go_upto_region 2 with fail
  obtain ⟨w2, hw2⟩ : ∃ W, w1.alloc (.cells #[.bool b1, .slice A1 n1 c1, .slice B1 m1 e1] 33) = W := ⟨_, rfl⟩
  obtain ⟨gl, hgl⟩ : ∃ g, w1.heap.size = g := ⟨_, rfl⟩
  have b2 : Below w1.heap.size w1 w2 := hw2 ▸ below_alloc _ _
  have L2 : Hid (Rw.Cel w2 gl [.bool b1, .slice A1 n1 c1, .slice B1 m1 e1]) := hw2 ▸ hgl ▸ Rw.Cel.new w1 [_, _, _] _
  have BB2 := Lib.hid (bstep BB1.out b2)
  have C2 := Lib.hid (C1.out.on b2)
  have M2 := Lib.hid (M1.out.on b2)
  have R2 := Lib.hid (R1.out.on b2)
  have O2 := Lib.hid (O1.out.on b2)
  have GL : Hid (w.heap.size + 2 < gl) := Lib.hid (by have := R1.out.lt; omega)
  rw [hw2, hgl]
  clear hw2 b2 hgl
  obtain ⟨u0, u1⟩ := R2.out.two
  obtain ⟨v0, v1⟩ := R2.out.warm2
  by_cases hz : E = 0
  rotate_left
  · obtain ⟨z1, z2⟩ := ne_zero hz
    obtain rfl : G = E := by rw [← HG.out, ← HE.out]; exact if_neg (by rw [HE.out]; exact hz)
    obtain ⟨f1, f2, f3⟩ := NO.out hz
    subst f1; subst f2; subst f3
    go_wp2_with fail
    exact bodyPost_ret (res_tank3 Try.results6 rfl (R2.out.put2 _ _)) rfl (DrR.none_ (Rw.below_put2 BB2.out (by omega) _ _))
  subst hz
  have HOK := Lib.hid (ckT_of HE.out)
  have O3 := Lib.hid (O2.out.zero rfl)
  have q0 := M2.out.at_ 0 _ rfl
  by_cases h0 : mass < 0
  · have d0 : decide (mass < 0) = true := decide_eq_true h0
    obtain rfl : G = 1 := by rw [← HG.out]; exact drE_rng HE.out (Bool.eq_false_iff.mpr fun h => by have := inM_iff.mp h; omega)
    obtain ⟨f1, f2, f3⟩ := NO.out (by decide)
    subst f1; subst f2; subst f3
    clear h0
    go_wp2_with fail
    exact bodyPost_ret (res_tank3 Try.results6 rfl (R2.out.put2 _ _)) rfl (DrR.none_ (Rw.below_put2 BB2.out (by omega) _ _))
  have d0 : decide (mass < 0) = false := decide_eq_false h0
  by_cases h1 : 1099511627776 < mass
  · have d1 : decide (1099511627776 < mass) = true := decide_eq_true h1
    have hMM : MM = 1099511627776 := rfl
    obtain rfl : G = 1 := by rw [← HG.out]; exact drE_rng HE.out (Bool.eq_false_iff.mpr fun h => by have := inM_iff.mp h; omega)
    obtain ⟨f1, f2, f3⟩ := NO.out (by decide)
    subst f1; subst f2; subst f3
    clear h0 h1 hMM
    go_wp2_with fail
    exact bodyPost_ret (res_tank3 Try.results6 rfl (R2.out.put2 _ _)) rfl (DrR.none_ (Rw.below_put2 BB2.out (by omega) _ _))
  have d1 : decide (1099511627776 < mass) = false := decide_eq_false h1
  have HI := Lib.hid (show inM MM mass = true from inM_iff.mpr ⟨by omega, Int.not_lt.mp h1⟩)
  have hm0 : 0 ≤ mass := by omega
  have HM0 := Lib.hid hm0
  have hpos := HOK.out.pos
  rw [HV.out] at hpos
  have KF := Lib.hid fun a W k => yq_Floor V hpos.2.2 hpos.1 hpos.2.1 a W k
  have hst := stock_iff HOK.out hm0
  rw [HV.out] at hst
  obtain ⟨Q, hQ⟩ : ∃ Q : Int, (rQ V : Int) = Q := ⟨_, rfl⟩
  rw [hQ] at KF hst
  have HST := Lib.hid hst
  have FV := Lib.hid hpos.2.2
  clear h0 h1 hm0 hpos hst hQ
  obtain ⟨x0, x1, x2⟩ := L2.out.three
  go_upto_region 6 with fail
  go_wp2_with fail
  refine (KF.out _ w2 O3.out).mono ?_
  rintro e w3 ⟨rfl, hb⟩
  have BB3 := Lib.hid (bstep BB2.out hb)
  have C3 := Lib.hid (C2.out.on hb)
  have M3 := Lib.hid (M2.out.on hb)
  have R3 := Lib.hid (R2.out.on hb)
  have L3 := Lib.hid (L2.out.on hb)
  have O4 := Lib.hid (O3.out.on hb)
  clear hb x0 x1 x2 u0 u1 v0 v1 q0
  have q0 := M3.out.at_ 0 _ rfl
  by_cases hs : Q < mass
  · have d2 : decide (Q < mass) = true := decide_eq_true hs
    obtain rfl : G = 19 := by rw [← HG.out]; exact drE_stock HE.out HI.out (by rw [HV.out]; exact HST.out.mp hs)
    obtain ⟨f1, f2, f3⟩ := NO.out (by decide)
    subst f1; subst f2; subst f3
    clear hs
    obtain ⟨u0, u1⟩ := R3.out.two
    obtain ⟨v0, v1⟩ := R3.out.warm2
    go_wp2_with fail
    exact bodyPost_ret (res_tank3 Try.results6 rfl (R3.out.put2 _ _)) rfl (DrR.none_ (Rw.below_put2 BB3.out (by omega) _ _))
  have d2 : decide (Q < mass) = false := decide_eq_false hs
  have HTK := Lib.hid (drE_tk HE.out HI.out (by rw [HV.out]; exact fun h => hs (HST.out.mpr h)))
  have hn8 : n ≤ 8 := by have := HOK.out.n1; have := HN.out; omega
  have HN8 := Lib.hid hn8
  have hmk := tk_make n (by omega)
  clear hs hn8
  obtain ⟨x0, x1⟩ := C3.out.two
  go_upto_region 10 with fail
  obtain ⟨gk, hgk⟩ : ∃ g, w3.heap.size = g := ⟨_, rfl⟩
  obtain ⟨w4, hw4⟩ : ∃ W, (w3.alloc (.cells (madeCells #[.bool false, .slice none 0 0, .slice none 0 0] (n * 3)) 33)).alloc (.cells #[.slice (some ⟨gk, 0, none⟩) n n] 22) = W := ⟨_, rfl⟩
  have W4 : Hid (Rw.Row cR 3 TR gk w4 (.slice (some ⟨gk, 0, none⟩) n n) ([] ++ List.replicate (n - 0) zR)) := hw4 ▸ ((hgk ▸ rowT_made w3 n (by have := HN8.out; omega) : Rw.Row cR 3 TR gk (w3.alloc (.cells (madeCells #[.bool false, .slice none 0 0, .slice none 0 0] (n * 3)) 33)) (.slice (some ⟨gk, 0, none⟩) n n) (List.replicate n zR)).on (below_alloc _ _))
  have T4 : Hid (Rw.Cel w4 (gk + 1) [.slice (some ⟨gk, 0, none⟩) n n]) := hw4 ▸ Rw.Cel.new_at _ [_] _ (by simp [hgk])
  have b4 : Below w3.heap.size w3 w4 := hw4 ▸ bstep (below_alloc _ _) (below_alloc _ _)
  have BB4 := Lib.hid (bstep BB3.out b4)
  have C4 := Lib.hid (C3.out.on b4)
  have M4 := Lib.hid (M3.out.on b4)
  have R4 := Lib.hid (R3.out.on b4)
  have L4 := Lib.hid (L3.out.on b4)
  have O5 := Lib.hid (O4.out.on b4)
  have GK : Hid (gl < gk ∧ w.heap.size + 2 < gk) := Lib.hid ⟨by have := L3.out.lt; omega, by have := R3.out.lt; omega⟩
  rw [hgk, hw4]
  clear hw4 hgk b4 hmk x0 x1 q0
  have A4 := Lib.hid (Rats.on HA.out BB4.out)
  have HAb : Hid (∀ b off, A = some ⟨b, off, none⟩ → b < gk) := Lib.hid fun b off e => by
    have := Rats.lt HA.out (by have := HOK.out.n0; omega) b off e
    have := GK.out.2
    omega
  have HVL : Hid (∀ t ∈ L, vT t = true) := fun t ht => (HOK.out.all t ht).1
  have HJ : Hid (DrJ L A mass b1 A1 n1 c1 B1 m1 e1 (w.heap.size + 1) gl (gk + 1) gk n 0 w4) := Lib.hid ⟨A4.out, M4.out, L4.out, HV.out ▸ O5.out, T4.out, ⟨[], rfl, W4.out, by rw [List.take_zero]; exact Ins.nil _⟩, by rw [List.take_zero]; intro q hq; cases hq⟩
  have hmm1 : mass ≤ MM := (inM_iff.mp HI.out).2
  have KC := Lib.hid (p_changed (w := w4) (bcm_draw (B := w4.heap.size) HVL.out (by rw [HV.out]; exact FV.out) HM0.out hmm1 HN.out HN8.out HAb.out (by have := GK.out; omega) GK.out.1 (Nat.lt_succ_self _) T4.out.lt) (drY_len L mass) cap n c HN.out HJ.out HN8.out)
  have hfe := fE_draw (mass := mass) HVL.out
  rw [← HTK.out, HG.out, ← HN.out] at hfe
  rw [hfe] at KC
  clear hfe hmm1
  obtain ⟨x0, x1⟩ := C4.out.two
  go_wp2_with fail
  refine KC.out.mono ?_
  rintro e w5 ⟨x, A3, n3, c3, rfl, ho, hsz, hno5, hyes5⟩
  have O6 := Lib.hid ho
  have NO5 := Lib.hid hno5
  have YES5 := Lib.hid hyes5
  have BB5 : Hid (Below w.heap.size w w5) := Lib.hid (BB4.out.trans (ho.below BB4.out.size fun y hy => by have := GK.out.2; omega))
  have R5 := Lib.hid (R4.out.off ho (by have := GK.out.2; omega))
  have T5 := Lib.hid (T4.out.off ho (by omega))
  clear ho hsz hno5 hyes5 x0 x1
  go_upto_region 11 with fail
  obtain ⟨w6, hw6⟩ : ∃ W, w5.alloc (.cells #[.int .i64 x, .slice A3 n3 c3] 24) = W := ⟨_, rfl⟩
  obtain ⟨gx, hgx⟩ : ∃ g, w5.heap.size = g := ⟨_, rfl⟩
  have b6 : Below w5.heap.size w5 w6 := hw6 ▸ below_alloc _ _
  have D6 : Hid (Rw.Cel w6 gx [.int .i64 x, .slice A3 n3 c3]) := hw6 ▸ hgx ▸ Rw.Cel.new w5 [_, _] _
  have BB6 := Lib.hid (bstep BB5.out b6)
  have HB6 := Lib.hid b6
  have R6 := Lib.hid (R5.out.on b6)
  have T6 := Lib.hid (T5.out.on b6)
  have GX : Hid (w.heap.size + 2 < gx ∧ gk + 1 < gx) := Lib.hid ⟨by have := R5.out.lt; omega, by have := T5.out.lt; omega⟩
  rw [hw6, hgx]
  clear hw6 hgx b6
  obtain ⟨u0, u1⟩ := R6.out.two
  obtain ⟨v0, v1⟩ := R6.out.warm2
  by_cases hz : G = 0
  rotate_left
  · obtain ⟨z1, z2⟩ := ne_zero hz
    obtain ⟨f1, f2, f3⟩ := NO.out hz
    subst f1; subst f2; subst f3
    go_wp2_with fail
    exact bodyPost_ret (res_tank3 Try.results6 rfl (R6.out.put2 _ _)) rfl (DrR.none_ (Rw.below_put2 BB6.out (by omega) _ _))
  obtain ⟨f1, f2, f3⟩ := YES.out hz
  obtain ⟨hT, hJ, hfy⟩ := YES5.out hz
  subst f1; subst f2; subst f3; subst hz
  have hfx := hJ.fit
  rw [List.take_of_length_le (by rw [drX_len, ← HN.out]; exact Nat.le_refl _)] at hfx
  obtain ⟨R, hR, hrow, hins⟩ := hJ.row
  rw [List.take_of_length_le (by rw [drX_len, ← HN.out]; exact Nat.le_refl _)] at hins
  obtain ⟨hr, hl⟩ := fill_rats hrow hins hR rfl
  have KT := Lib.hid (InT.tank (InT.on hT HB6.out) (ts_vZ hfy) R6.out (.int .i64 x) (.slice A3 n3 c3))
  have KR := Lib.hid (Rats.tank (Rats.on hr HB6.out) (ts_vZ hfx) R6.out (.int .i64 x) (.slice A3 n3 c3))
  have KN := Lib.hid hl
  have HX := Lib.hid HN8.out
  clear hT hJ hfy hfx hR hrow hins hr hl
  obtain ⟨y0, y1⟩ := D6.out.two
  have s0 := T6.out.at_ 0 _ rfl
  have s1 := (((T6.out.far (p := ⟨w.heap.size + 2, 0, none⟩) (by have := GK.out; dsimp only; omega) (.int .i64 x)).far (p := ⟨w.heap.size + 2, 1, none⟩) (by have := GK.out; dsimp only; omega) (.slice A3 n3 c3))).at_ 0 _ rfl
  have l1 : w.heap.size + 2 < gx := GX.out.1
  have l2 : w.heap.size + 2 < gk + 1 := by have := GK.out; omega
  go_upto_region 13 with fail
  go_region
  all_goals
    go_wp2_with fail
    exact bodyPost_ret (res_tank3 Try.results6 rfl (R6.out.put2 _ _).drew) rfl ⟨_, _, _, _, rfl, KT.out, KN.out, by have := HX.out; omega, KR.out, below_drew (Rw.below_put2 BB6.out (by omega) _ _)⟩
end Go.Proofs.Ytgmlccjjhmhgbaa.Tank
/- The program: Pour. -/
namespace Go.Proofs.Ytgmlccjjhmhgbaa.Tank
open Go.ChangeShapes Go.WideShapes Go.RowKit Go.Lib
open Go.Proofs.Ytgmlccjjhmhgbaa.Rw (Rd Row Kd Off glt get_lt below_alloc bstep wrap_id below_drewN below_drew drew_below take_snoc_of)
set_option linter.unusedVariables false
set_option maxRecDepth 100000

theorem dr_fit {cap : Int} {L : List Trip} {mass : Int} (h : drE cap L mass = 0) : (∀ q ∈ drX L mass, fitR q = true) ∧ (∀ q ∈ drY L mass, fitR q = true) := by
  have hd := drE_of h
  have hL : ∀ t ∈ L, vT t = true := fun t ht => (hd.t.all t ht).1
  have key : ∀ p ∈ qs L, erD mass (sumV L) p = 0 := fun p hp => by
    by_cases hm : mass = 0
    · subst hm; exact (erD_zero (qs_fit hL p hp)).1
    · rw [(erD_tk hm _ _).1]; exact hd.tk hm p hp
  refine ⟨fun q hq => ?_, fun q hq => ?_⟩
  · rw [drX_pt] at hq
    obtain ⟨p, hp, rfl⟩ := List.mem_map.mp hq
    exact ptV_fit (erD_of (key p hp)).1
  · rw [drY_le hL] at hq
    obtain ⟨p, hp, rfl⟩ := List.mem_map.mp hq
    exact leD_fit (qs_fit hL p hp) (key p hp)
/-- Two tanks and an error. -/
def PoR (w : World) (err cx : Int) (X : List Trip) (cy : Int) (Y : List Trip) (e : Ending) (w' : World) : Prop :=
  ∃ v u, e = .returned (.tuple #[v, u, .int .i64 err]) ∧ InT w' v cx X ∧ InT w' u cy Y ∧ Below w.heap.size w w'
theorem res_tanks {fn : Func} {p q u : Tmp} (h : fn.results = #[.cell p 24, .cell q 24, .tmp u]) {tmps : Array Value} {w : World} {g k : Nat} {u0 u1 v0 v1 : Value} (hp : tmps.getD p undef = .pointer (some ⟨g, 0, none⟩)) (hq : tmps.getD q undef = .pointer (some ⟨k, 0, none⟩))
    (hc : Rw.Cel w g [u0, u1]) (hd : Rw.Cel w k [v0, v1]) : (results fn tmps).run Try.prog w = .ok (.tuple #[.agg #[u0, u1], .agg #[v0, v1], tmps.getD u undef]) w := by
  have hp' : tmps[p]?.getD undef = .pointer (some ⟨g, 0, none⟩) := by simpa using hp
  have hq' : tmps[q]?.getD undef = .pointer (some ⟨k, 0, none⟩) := by simpa using hq
  obtain ⟨h0, h1⟩ := hc.two
  obtain ⟨k0, k1⟩ := hd.two
  simp [results, h, hp', hq', go_sem, h0, h1, k0, k1]
theorem far2 {w : World} {g k : Nat} {us : List Value} (h : Rw.Cel w g us) (hne : k ≠ g) (x y : Value) : Rw.Cel ((w.setCell ⟨k, 0, none⟩ x).setCell ⟨k, 1, none⟩ y) g us :=
  (h.far (p := ⟨k, 0, none⟩) hne x).far (p := ⟨k, 1, none⟩) hne y
theorem po_no {c : Int} {L : List Trip} {d : Int} {M : List Trip} {mass E : Int} (h : poE c L d M mass = E) (h0 : ¬ E = 0) : (∀ x, poC c L d M mass x = 0) ∧ poX c L d M mass = [] ∧ poY c L d M mass = [] := by
  unfold poC poX poY
  rw [h, if_neg h0, if_neg h0]; exact ⟨fun x => if_neg h0, rfl, rfl⟩
theorem po_yes {c : Int} {L : List Trip} {d : Int} {M : List Trip} {mass : Int} (h : poE c L d M mass = 0) : (∀ x, poC c L d M mass x = x) ∧ poX c L d M mass = ts (drY L mass) ∧ poY c L d M mass = ts (poV (qs M) (drX L mass)) := by
  unfold poC poX poY
  rw [if_pos h, if_pos h]; exact ⟨fun x => if_pos h, rfl, rfl⟩
theorem poE_a {c : Int} {L : List Trip} {d : Int} {M : List Trip} {mass : Int} (h : ¬ ckT c L = 0) : poE c L d M mass = ckT c L := if_neg h
theorem poE_b {c : Int} {L : List Trip} {d : Int} {M : List Trip} {mass : Int} (h : ckT c L = 0) (h2 : ¬ ckT d M = 0) : poE c L d M mass = ckT d M := by unfold poE; rw [if_pos h, if_neg h2]
theorem poE_len {c : Int} {L : List Trip} {d : Int} {M : List Trip} {mass : Int} (h : ckT c L = 0) (h2 : ckT d M = 0) (h3 : ¬ L.length = M.length) : poE c L d M mass = 17 := by unfold poE; rw [if_pos h, if_pos h2, if_neg h3]
theorem poE_dr {c : Int} {L : List Trip} {d : Int} {M : List Trip} {mass : Int} (h : ckT c L = 0) (h2 : ckT d M = 0) (h3 : L.length = M.length) (h4 : ¬ drE c L mass = 0) : poE c L d M mass = drE c L mass := by unfold poE; rw [if_pos h, if_pos h2, if_pos h3, if_neg h4]
theorem poE_fl {c : Int} {L : List Trip} {d : Int} {M : List Trip} {mass : Int} (h : ckT c L = 0) (h2 : ckT d M = 0) (h3 : L.length = M.length) (h4 : drE c L mass = 0) : poE c L d M mass = flE d (qs M) (drX L mass) := by unfold poE flE; rw [if_pos h, if_pos h2, if_pos h3, if_pos h4]
theorem PoR.none_ {w w' : World} {err : Int} (hb : Below w.heap.size w w') : PoR w err 0 [] 0 [] (.returned (.tuple #[.agg #[.int .i64 0, .slice none 0 0], .agg #[.int .i64 0, .slice none 0 0], .int .i64 err])) w' := ⟨_, _, rfl, InT.zero _, InT.zero _, hb⟩
end Go.Proofs.Ytgmlccjjhmhgbaa.Tank
/- Part of the reference. -/
namespace Go.Proofs.Ytgmlccjjhmhgbaa.Tank
open Go.ChangeShapes Go.WideShapes Go.RowKit Go.Lib
open Go.Proofs.Ytgmlccjjhmhgbaa.Rw (glt get_lt below_alloc bstep wrap_id below_drewN below_drew drew_below)
set_option linter.unusedVariables false
set_option maxRecDepth 100000

theorem paE_ck {cap : Int} {L : List Trip} {kind : Int} (h : ¬ ckT cap L = 0) : paE cap L kind = ckT cap L := if_neg h
theorem paE_in {cap : Int} {L : List Trip} {kind : Int} (h : ckT cap L = 0) : paE cap L kind = paM L kind := if_pos h
theorem isR_len {w : World} {b : Bool} {A B : Option Addr} {n c m d : Nat} {r : Rat} (h : IsR w (.agg #[.bool b, .slice A n c, .slice B m d]) r) : n = (topL r).length := by
  obtain ⟨-, h1, -⟩ := IsR.cells h
  obtain ⟨A', c', e, -⟩ := in_open h1
  exact (Value.slice.inj e).2.1
end Go.Proofs.Ytgmlccjjhmhgbaa.Tank
/- The program: Part (gen17/pk.py out of TankH). -/
namespace Go.Proofs.Ytgmlccjjhmhgbaa.Tank
open Go.ChangeShapes Go.WideShapes Go.RowKit Go.Lib
open Go.Proofs.Ytgmlccjjhmhgbaa.Rw (glt get_lt below_alloc bstep wrap_id below_drewN below_drew drew_below)
set_option linter.unusedVariables false
set_option maxRecDepth 100000

set_option maxHeartbeats 3200000 in
theorem p_Part (cap : Int) (L : List Trip) (A : Option Addr) (n c : Nat) (hn : n = L.length) (kind : Int) (w : World) (ha : Rats w A L) (hm : n ≤ 9223372036854775807) :
    Calls Try.prog 7 #[.agg #[.int .i64 cap, .slice A n c], .int .i64 kind] w (RRes w (paE cap L kind) (paV L kind)) := by
  have HA := Lib.hid ha
  have KL := Lib.hid fun (W : World) (h : Rats W A L) => p_Level cap L A n c hn W h hm
  obtain ⟨E, hE⟩ : ∃ E, ckT cap L = E := ⟨_, rfl⟩
  obtain ⟨V, hV⟩ : ∃ V, sumV L = V := ⟨_, rfl⟩
  obtain ⟨G, hG⟩ : ∃ G, paE cap L kind = G := ⟨_, rfl⟩
  obtain ⟨X, hX⟩ : ∃ X, paV L kind = X := ⟨_, rfl⟩
  rw [hE, hV] at KL
  rw [hG, hX]
  have HE := Lib.hid (And.intro hE (And.intro hV (And.intro hG hX)))
  have HN := Lib.hid hn
  clear ha hn hE hV hG hX
  go_enter Try.func7, Try.ntmps7
  go_upto_region 1 with fail
  obtain ⟨w0, hw0⟩ : ∃ W, (w.alloc (.cells #[.int .i64 cap, .slice A n c] 24)).alloc (.cells #[.bool false, .slice none 0 0, .slice none 0 0] 33) = W := ⟨_, rfl⟩
  have C0 : Hid (Rw.Cel w0 w.heap.size [.int .i64 cap, .slice A n c]) := hw0 ▸ (Rw.Cel.new w [_, _] _).alloc _
  have R0 : Hid (Rw.Cel w0 (w.heap.size + 1) [.bool false, .slice none 0 0, .slice none 0 0]) := hw0 ▸ Rw.Cel.new_at _ [_, _, _] _ (by simp)
  have B0 : Hid (Below w.heap.size w w0) := hw0 ▸ bstep (below_alloc _ _) (below_alloc _ _)
  first | rw [hw0] | skip
  clear hw0
  obtain ⟨x0, x1⟩ := C0.out.two
  go_wp2_with fail
  refine (KL.out w0 (HA.out.on B0.out)).mono ?_
  rintro e w1 h
  obtain ⟨b4, A4, n4, c4, B4, m4, d4, rfl, ho, hb⟩ := h.open_
  have B1 := Lib.hid (bstep B0.out hb)
  have C1 := Lib.hid (C0.out.on hb)
  have R1 := Lib.hid (R0.out.on hb)
  have O1 := Lib.hid ho
  clear h ho hb x0 x1
  go_upto_region 2 with fail
  obtain ⟨w2, hw2⟩ : ∃ W, w1.alloc (.cells #[.bool b4, .slice A4 n4 c4, .slice B4 m4 d4] 33) = W := ⟨_, rfl⟩
  obtain ⟨g, hg⟩ : ∃ g, w1.heap.size = g := ⟨_, rfl⟩
  have hb2 : Below w1.heap.size w1 w2 := hw2 ▸ below_alloc _ _
  have X2 : Hid (Rw.Cel w2 g [.bool b4, .slice A4 n4 c4, .slice B4 m4 d4]) := hw2 ▸ hg ▸ Rw.Cel.new w1 [_, _, _] _
  have B2 := Lib.hid (bstep B1.out hb2)
  have C2 := Lib.hid (C1.out.on hb2)
  have R2 := Lib.hid (R1.out.on hb2)
  have O2 := Lib.hid (O1.out.on hb2)
  rw [hw2, hg]
  clear hw2 hb2 hg
  obtain ⟨u0, u1, u2⟩ := R2.out.three
  obtain ⟨t0, t1, t2⟩ := R2.out.warm3
  by_cases hz : E = 0
  rotate_left
  · obtain ⟨z1, z2⟩ := ne_zero hz
    obtain rfl : G = E := by rw [← HE.out.2.2.1, ← HE.out.1]; exact paE_ck (by rw [HE.out.1]; exact hz)
    go_wp2_with fail
    exact bodyPost_ret (res_rat2 Try.results7 rfl (R2.out.put3 _ _ _)) rfl ⟨_, rfl, OutR.no hz, Rw.below_put3 B2.out (Nat.le_succ _) _ _ _⟩
  subst hz
  have hG := HE.out.2.2.1
  rw [paE_in HE.out.1] at hG
  unfold paM at hG
  rw [HE.out.2.1, ← HN.out] at hG
  have O3 := Lib.hid (O2.out.zero rfl)
  have hn4 := isR_len O3.out
  obtain ⟨x0, x1⟩ := C2.out.two
  obtain ⟨y0, y1, y2⟩ := X2.out.three
  by_cases h0 : kind < 0
  · have d0 : decide (kind < 0) = true := decide_eq_true h0
    obtain rfl : G = 7 := by rw [← hG]; exact if_neg (by omega)
    clear hG hn4 h0
    go_wp2_with fail
    exact bodyPost_ret (res_rat2 Try.results7 rfl (R2.out.put3 _ _ _)) rfl ⟨_, rfl, OutR.no (by decide), Rw.below_put3 B2.out (Nat.le_succ _) _ _ _⟩
  have d0 : decide (kind < 0) = false := decide_eq_false h0
  by_cases h1 : (n : Int) ≤ kind
  · have d1 : decide ((n : Int) ≤ kind) = true := decide_eq_true h1
    obtain rfl : G = 7 := by rw [← hG]; exact if_neg (by omega)
    clear hG hn4 h0 h1
    go_wp2_with fail
    exact bodyPost_ret (res_rat2 Try.results7 rfl (R2.out.put3 _ _ _)) rfl ⟨_, rfl, OutR.no (by decide), Rw.below_put3 B2.out (Nat.le_succ _) _ _ _⟩
  have d1 : decide ((n : Int) ≤ kind) = false := decide_eq_false h1
  rw [if_pos (by omega)] at hG
  by_cases hv : V.num = 0
  · have hl : n4 = 0 := by
      rw [hn4]
      have := top_emp V
      rw [decide_eq_true hv, List.isEmpty_iff] at this
      rw [this]; rfl
    have z1 : ((n4 : Int) == 0) = true := by rw [hl]; rfl
    obtain rfl : G = 10 := by rw [← hG]; exact if_pos hv
    clear hG hn4 h0 h1 hv hl
    go_wp2_with fail
    exact bodyPost_ret (res_rat2 Try.results7 rfl (R2.out.put3 _ _ _)) rfl ⟨_, rfl, OutR.no (by decide), Rw.below_put3 B2.out (Nat.le_succ _) _ _ _⟩
  rw [if_neg hv] at hG
  have z1 : ((n4 : Int) == 0) = false := by
    refine beq_false_of_ne fun e => ?_
    have h4 : n4 = 0 := by omega
    have h5 := top_emp V
    rw [decide_eq_false hv] at h5
    rw [hn4] at h4
    rw [List.eq_nil_of_length_eq_zero h4] at h5
    cases h5
  obtain ⟨K, hK⟩ : ∃ K : Nat, kind = (K : Int) := ⟨kind.toNat, by omega⟩
  subst hK
  obtain ⟨t, ht⟩ := get_lt (L := L) (k := K) (by have := HN.out; omega)
  have hok := ckT_of HE.out.1
  have VT := Lib.hid (hok.all t (List.mem_of_getElem? ht)).1
  have FV := Lib.hid (show fitR V = true by rw [← HE.out.2.1]; exact sumE_fit hok.sum)
  have hq : (qs L).getD K 0 = rT t := by rw [List.getD_eq_getElem?_getD, qs_at ht]; rfl
  rw [Int.toNat_natCast, hq] at hG
  have hX := HE.out.2.2.2
  unfold paV at hX
  rw [Int.toNat_natCast, hq, HE.out.2.1] at hX
  have KD := Lib.hid fun a b W h k => yq_Div (rT t) V (trip_form VT.out).1 FV.out a b W h k
  rw [hG, hX] at KD
  have i1 : (K : Int) < (n : Int) := by omega
  have i2 : (0 : Int) ≤ (K : Int) := by omega
  obtain ⟨b2, o2, A6, c6, A7, c7, hA0, hb2, k0, k1, k2, hin⟩ := Rats.at_ (HA.out.on B2.out) ht
  subst hA0
  have HI := Lib.hid (trip_is VT.out hin)
  clear hG hX hq hok ht hin hn4 h0 h1 hv
  go_upto_region 8 with fail
  go_region_with ((go_at_call 21; (refine (KD.out _ _ _ ?_ ?_).mono ?_); (exact HI.out.on (drew_below _)); (exact O3.out.on (drew_below _)); rintro e w6 h6; obtain ⟨b6, A8, n8, c8, B8, m8, d8, rfl, ho6, hb6⟩ := h6.open_; have HO6 := Lib.hid ho6; have HB6 := Lib.hid (bstep (drew_below _) hb6); have hr6 := Lib.hid (R2.out.on HB6.out); obtain ⟨s0, s1, s2⟩ := hr6.out.three; obtain ⟨v0, v1, v2⟩ := hr6.out.warm3; clear h6 ho6 hb6))
  all_goals
    go_wp2_with fail
    exact bodyPost_ret (res_rat2 Try.results7 rfl (hr6.out.put3 _ _ _)) rfl ⟨_, rfl, OutR.put3 HO6.out (cel_root hr6.out) _ _ _, Rw.below_put3 (bstep B2.out HB6.out) (Nat.le_succ _) _ _ _⟩
end Go.Proofs.Ytgmlccjjhmhgbaa.Tank
/- What the laws of the stage lean on: light, rats, same, valid, whole. -/
namespace Go.Proofs.Ytgmlccjjhmhgbaa.Tank
open Go.ChangeShapes Go.WideShapes Go.RowKit Go.Lib
open Go.Proofs.Ytgmlccjjhmhgbaa.Rw (glt get_lt below_alloc bstep wrap_id below_drewN below_drew drew_below)
set_option linter.unusedVariables false
set_option maxRecDepth 100000

/-- Not many more parts than there may be, of few limbs. -/
def lightB (L : List Trip) : Bool := decide (L.length ≤ 20) && L.all fun t => decide (t.2.1.length ≤ 5) && decide (t.2.2.length ≤ 5)
set_option maxHeartbeats 1600000 in
theorem law_light (cap : Int) (L : List Trip) (A : Option Addr) (n c : Nat) (hn : n = L.length) (w : World) (ha : Rats w A L) (hm : n ≤ 9223372036854775807) :
    Calls Try.prog 4 #[.agg #[.int .i64 cap, .slice A n c]] w fun e w' => e = .returned (.bool (lightB L)) ∧ Below w.heap.size w w' := by
  have HA := Lib.hid ha
  have HN := Lib.hid hn
  obtain ⟨M, hM⟩ : ∃ M, lightB L = M := ⟨_, rfl⟩
  rw [hM]
  have HM := Lib.hid hM
  clear ha
  by_cases h : 20 < n
  · have h1 : decide ((20 : Int) < (n : Int)) = true := decide_eq_true (by omega)
    obtain rfl : M = false := by rw [← hM]; unfold lightB; rw [decide_eq_false (by omega)]; rfl
    clear h hn hM
    go_enter Try.func4, Try.ntmps4
    go_wp2_with fail
    go_ret
    exact ⟨rfl, below_alloc _ _⟩
  have h1 : decide ((20 : Int) < (n : Int)) = false := decide_eq_false (by omega)
  have H0 := Lib.hid (show L.length ≤ 20 by omega)
  clear h hn hM
  go_enter Try.func4, Try.ntmps4
  go_upto_region 1 with fail
  obtain ⟨w0, hw0⟩ : ∃ W, w.alloc (.cells #[.int .i64 cap, .slice A n c] 24) = W := ⟨_, rfl⟩
  have C0 : Hid (Rw.Cel w0 w.heap.size [.int .i64 cap, .slice A n c]) := hw0 ▸ Rw.Cel.new w [_, _] _
  have B0 : Hid (Below w.heap.size w w0) := hw0 ▸ below_alloc _ _
  rw [hw0]
  clear hw0
  obtain ⟨x0, x1⟩ := C0.out.two
  go_wp2_with fail
  go_loopw [3] (fun i wr => ∃ k : Nat, k ≤ n ∧ i = .int .i64 k ∧ (∀ (j : Nat) (t : Trip), j < k → L[j]? = some t → t.2.1.length ≤ 5 ∧ t.2.2.length ≤ 5) ∧ Below w0.heap.size w0 wr) (fun i _ => n - (RowKit.intOf i).toNat)
  case atStart => exact ⟨0, Nat.zero_le _, rfl, fun j t h => absurd h (by omega), Below.refl _ _⟩
  case round =>
    obtain ⟨k, hk, rfl, hv, hbel⟩ := hrel
    have HV := Lib.hid hv
    have HW := Lib.hid hbel
    have BW := Lib.hid (bstep B0.out hbel)
    clear hv hbel x0 x1
    obtain ⟨x0, x1⟩ := (C0.out.on HW.out).two
    rcases Nat.lt_or_ge k n with hlt | hge
    · obtain ⟨t, ht⟩ := get_lt (L := L) (k := k) (by have := HN.out; omega)
      obtain ⟨b, off, A1, c1, A2, c2, rfl, hb, y0, y1, y2, -⟩ := Rats.at_ (HA.out.on BW.out) ht
      have HT := Lib.hid ht
      have i1 : (k : Int) < (n : Int) := by omega
      have i2 : (0 : Int) ≤ (k : Int) := by omega
      obtain ⟨p, hp⟩ : ∃ p, t.2.1.length = p := ⟨_, rfl⟩
      obtain ⟨q, hq⟩ : ∃ q, t.2.2.length = q := ⟨_, rfl⟩
      rw [hp] at y1
      rw [hq] at y2
      have HPQ := Lib.hid (And.intro hp hq)
      have hbad : ¬ (p ≤ 5 ∧ q ≤ 5) → lightB L = false := fun h => by
        unfold lightB
        rw [Bool.and_eq_false_iff]
        refine Or.inr (List.all_eq_false.mpr ⟨t, List.mem_of_getElem? ht, ?_⟩)
        rw [hp, hq]
        simp only [Bool.and_eq_true, decide_eq_true_iff]
        exact h
      have HBad := Lib.hid hbad
      clear ht hp hq hbad
      by_cases hg : 5 < p
      · have t0 : decide ((5 : Int) < (p : Int)) = true := decide_eq_true (by omega)
        obtain rfl : M = false := by rw [← HM.out]; exact HBad.out (by omega)
        clear hg
        go_wp2_with fail
        go_ret
        exact ⟨rfl, BW.out⟩
      have t0 : decide ((5 : Int) < (p : Int)) = false := decide_eq_false (by omega)
      by_cases hg2 : 5 < q
      · have t1 : decide ((5 : Int) < (q : Int)) = true := decide_eq_true (by omega)
        obtain rfl : M = false := by rw [← HM.out]; exact HBad.out (by omega)
        clear hg hg2
        go_wp2_with fail
        go_ret
        exact ⟨rfl, BW.out⟩
      have t1 : decide ((5 : Int) < (q : Int)) = false := decide_eq_false (by omega)
      have HG := Lib.hid (show t.2.1.length ≤ 5 ∧ t.2.2.length ≤ 5 by rw [HPQ.out.1, HPQ.out.2]; omega)
      clear hg hg2
      go_wp2_with fail
      go_roundw
      case rel =>
        refine ⟨k + 1, by omega, by go_num, ?_, HW.out⟩
        intro j u hj hu
        rcases Nat.lt_or_eq_of_le (Nat.le_of_lt_succ hj) with h | h
        · exact HV.out j u h hu
        · subst h
          have e := HT.out
          rw [hu] at e; cases e; exact HG.out
      case measure => simp [RowKit.intOf]; omega
    · obtain rfl : k = n := by omega
      obtain rfl : M = true := by
        rw [← HM.out]; unfold lightB
        rw [decide_eq_true H0.out, Bool.true_and]
        refine List.all_eq_true.mpr fun t ht => ?_
        obtain ⟨j, hj⟩ := List.mem_iff_getElem?.mp ht
        have := HV.out j t (by rw [HN.out]; exact glt hj) hj
        simp only [Bool.and_eq_true, decide_eq_true_iff]
        exact this
      go_wp2_with fail
      go_ret
      exact ⟨rfl, BW.out⟩
end Go.Proofs.Ytgmlccjjhmhgbaa.Tank
/- rats, same, whole of the laws. -/
namespace Go.Proofs.Ytgmlccjjhmhgbaa.Tank
open Go.ChangeShapes Go.WideShapes Go.RowKit Go.Lib
open Go.Proofs.Ytgmlccjjhmhgbaa.Rw (glt get_lt below_alloc bstep wrap_id below_drewN below_drew drew_below)
set_option linter.unusedVariables false
set_option maxRecDepth 100000

theorem list_ext {α : Type} {L M : List α} (hl : L.length = M.length) (h : ∀ (j : Nat) (s t : α), L[j]? = some s → M[j]? = some t → s = t) : L = M := by
  refine List.ext_getElem? fun j => ?_
  rcases Nat.lt_or_ge j L.length with hj | hj
  · obtain ⟨s, hs⟩ := get_lt hj
    obtain ⟨t, ht⟩ := get_lt (L := M) (k := j) (by omega)
    rw [hs, ht, h j s t hs ht]
  · rw [List.getElem?_eq_none hj, List.getElem?_eq_none (by omega)]
set_option maxHeartbeats 3200000 in
theorem law_rats (L M : List Trip) (A B : Option Addr) (n m c d : Nat) (hn : n = L.length) (hn' : m = M.length) (w : World) (ha : Rats w A L) (hb : Rats w B M) (hm : n ≤ 9223372036854775807) (hm2 : m ≤ 9223372036854775807) :
    Calls Try.prog 14 #[.slice A n c, .slice B m d] w fun e w' => e = .returned (.bool (decide (L = M))) ∧ Below w.heap.size w w' := by
  have HA := Lib.hid ha
  have HB := Lib.hid hb
  obtain ⟨P, hP⟩ : ∃ P, decide (L = M) = P := ⟨_, rfl⟩
  rw [hP]
  by_cases hl : n = m
  rotate_left
  · have z1 : ((n : Int) != (m : Int)) = true := by rw [bne, beq_false_of_ne (by omega)]; rfl
    obtain rfl : P = false := by rw [← hP]; exact decide_eq_false fun e => hl (by rw [hn, hn', e])
    clear ha hb hn hn' hP hl
    go_enter Try.func14, Try.ntmps14
    go_wp2_with fail
    go_ret
    exact ⟨rfl, Below.refl _ _⟩
  subst hl
  have z1 : ((n : Int) != (n : Int)) = false := by simp
  have HN := Lib.hid (And.intro hn hn')
  have HP := Lib.hid hP
  clear ha hb hn hn' hP
  go_enter Try.func14, Try.ntmps14
  go_wp2_with fail
  go_loopw [5] (fun i wr => ∃ k : Nat, k ≤ n ∧ i = .int .i64 k ∧ (∀ (j : Nat) (s t : Trip), j < k → L[j]? = some s → M[j]? = some t → s = t) ∧ Below w.heap.size w wr) (fun i _ => n - (RowKit.intOf i).toNat)
  case atStart => exact ⟨0, Nat.zero_le _, rfl, fun j s t h => absurd h (by omega), Below.refl _ _⟩
  case round =>
    obtain ⟨k, hk, rfl, hv, hbel⟩ := hrel
    have HV := Lib.hid hv
    have BW := Lib.hid hbel
    clear hv hbel
    rcases Nat.lt_or_ge k n with hlt | hge
    · obtain ⟨s, hs⟩ := get_lt (L := L) (k := k) (by have := HN.out.1; omega)
      obtain ⟨t, ht⟩ := get_lt (L := M) (k := k) (by have := HN.out.2; omega)
      obtain ⟨b1, o1, A1, a1, A2, a2, hA0, hb1, x0, x1, x2, hi1⟩ := Rats.at_ (HA.out.on BW.out) hs
      obtain ⟨b2, o2, B1, c1, B2, c2, hB0, hb2, y0, y1, y2, hi2⟩ := Rats.at_ (HB.out.on BW.out) ht
      subst hA0
      subst hB0
      have i1 : (k : Int) < (n : Int) := by omega
      have i2 : (0 : Int) ≤ (k : Int) := by omega
      have HS := Lib.hid (And.intro hs ht)
      have HI := Lib.hid (And.intro hi1 hi2)
      have KS := Lib.hid fun a b W h k => tk_Same s t a b W h k
      obtain ⟨p, hp⟩ : ∃ p, decide (s = t) = p := ⟨_, rfl⟩
      rw [hp] at KS
      have HPp := Lib.hid hp
      have HK : Hid (∀ W, Below wr.heap.size wr W → (W.cell? ⟨b1, o1 + k * 3, none⟩ = some (.bool s.1) ∧ W.cell? ⟨b1, o1 + k * 3 + 1, none⟩ = some (.slice A1 s.2.1.length a1) ∧ W.cell? ⟨b1, o1 + k * 3 + 2, none⟩ = some (.slice A2 s.2.2.length a2)) ∧ (W.cell? ⟨b2, o2 + k * 3, none⟩ = some (.bool t.1) ∧ W.cell? ⟨b2, o2 + k * 3 + 1, none⟩ = some (.slice B1 t.2.1.length c1) ∧ W.cell? ⟨b2, o2 + k * 3 + 2, none⟩ = some (.slice B2 t.2.2.length c2))) := fun W h =>
        ⟨⟨(h.cell (p := ⟨b1, o1 + k * 3, none⟩) hb1).trans x0, (h.cell (p := ⟨b1, o1 + k * 3 + 1, none⟩) hb1).trans x1, (h.cell (p := ⟨b1, o1 + k * 3 + 2, none⟩) hb1).trans x2⟩, (h.cell (p := ⟨b2, o2 + k * 3, none⟩) hb2).trans y0, (h.cell (p := ⟨b2, o2 + k * 3 + 1, none⟩) hb2).trans y1, (h.cell (p := ⟨b2, o2 + k * 3 + 2, none⟩) hb2).trans y2⟩
      clear hs ht hi1 hi2 hp
      obtain ⟨wq, rfl⟩ : ∃ W, W = wr := ⟨wr, rfl⟩
      go_upto_region 6 with fail
      go_cut [26] from 17 to 25 (fun v wz => v = .bool (!p) ∧ Below wq.heap.size wq wz)
      case first =>
        go_region_held3 (fun W => (W.cell? ⟨b1, o1 + k * 3, none⟩ = some (.bool s.1) ∧ W.cell? ⟨b1, o1 + k * 3 + 1, none⟩ = some (.slice A1 s.2.1.length a1) ∧ W.cell? ⟨b1, o1 + k * 3 + 2, none⟩ = some (.slice A2 s.2.2.length a2)) ∧ (W.cell? ⟨b2, o2 + k * 3, none⟩ = some (.bool t.1) ∧ W.cell? ⟨b2, o2 + k * 3 + 1, none⟩ = some (.slice B1 t.2.1.length c1) ∧ W.cell? ⟨b2, o2 + k * 3 + 2, none⟩ = some (.slice B2 t.2.2.length c2)))
          (first | exact HK.out _ (Below.refl _ _) | exact HK.out _ (drew_below _) | exact HK.out _ (bstep (drew_below _) hb6))
          ((go_at_call 9; (refine (KS.out _ _ _ ?_ ?_).mono ?_); (exact HI.out.1.on (drew_below _)); (exact HI.out.2.on (drew_below _)); rintro e w6 ⟨rfl, hb6⟩))
        all_goals
          go_wp2_with fail
          go_meet
          case rel => exact ⟨rfl, bstep (drew_below _) hb6⟩
      case rest =>
        obtain ⟨rfl, hb7⟩ := hcut
        have B7 := Lib.hid (bstep BW.out hb7)
        clear hb7 x0 x1 x2 y0 y1 y2
        cases p with
        | false =>
          obtain rfl : P = false := by
            rw [← HP.out]
            refine decide_eq_false fun e => ?_
            subst e
            have e1 := HS.out.1
            rw [HS.out.2] at e1; cases e1
            exact absurd rfl (of_decide_eq_false HPp.out)
          go_wp2_with fail
          go_ret
          exact ⟨rfl, B7.out⟩
        | true =>
          have HE := Lib.hid (of_decide_eq_true HPp.out)
          go_wp2_with fail
          go_roundw
          case rel =>
            refine ⟨k + 1, by omega, by go_num, ?_, B7.out⟩
            intro j u v hj hu hv
            rcases Nat.lt_or_eq_of_le (Nat.le_of_lt_succ hj) with h | h
            · exact HV.out j u v h hu hv
            · subst h
              have e1 := HS.out.1
              have e2 := HS.out.2
              rw [hu] at e1; rw [hv] at e2; cases e1; cases e2; exact HE.out
          case measure => simp [RowKit.intOf]; omega
    · obtain rfl : k = n := by omega
      obtain rfl : P = true := by
        rw [← HP.out]
        exact decide_eq_true (list_ext (by rw [← HN.out.1, ← HN.out.2]) fun j s t hs ht => HV.out j s t (by have := glt hs; have := HN.out.1; omega) hs ht)
      go_wp2_with fail
      go_ret
      exact ⟨rfl, BW.out⟩
set_option maxHeartbeats 1600000 in
theorem law_same (cap cap' : Int) (L M : List Trip) (A B : Option Addr) (n m c d : Nat) (hn : n = L.length) (hn' : m = M.length) (w : World) (ha : Rats w A L) (hb : Rats w B M) (hm : n ≤ 9223372036854775807) (hm2 : m ≤ 9223372036854775807) :
    Calls Try.prog 15 #[.agg #[.int .i64 cap, .slice A n c], .agg #[.int .i64 cap', .slice B m d]] w fun e w' => e = .returned (.bool (decide (cap = cap') && decide (L = M))) ∧ Below w.heap.size w w' := by
  have HA := Lib.hid ha
  have HB := Lib.hid hb
  have KR := Lib.hid fun (W : World) (h : Rats W A L) (k : Rats W B M) => law_rats L M A B n m c d hn hn' W h k hm hm2
  obtain ⟨P, hP⟩ : ∃ P, decide (L = M) = P := ⟨_, rfl⟩
  rw [hP] at KR ⊢
  clear ha hb hn hn' hP
  by_cases he : cap = cap'
  · subst he
    have z1 : (cap == cap) = true := by simp
    rw [decide_eq_true (rfl : cap = cap), Bool.true_and]
    go_enter Try.func15, Try.ntmps15
    go_upto_region 1 with fail
    obtain ⟨w0, hw0⟩ : ∃ W, (w.alloc (.cells #[.int .i64 cap, .slice A n c] 24)).alloc (.cells #[.int .i64 cap, .slice B m d] 24) = W := ⟨_, rfl⟩
    have C0 : Hid (Rw.Cel w0 w.heap.size [.int .i64 cap, .slice A n c]) := hw0 ▸ (Rw.Cel.new w [_, _] _).alloc _
    have D0 : Hid (Rw.Cel w0 (w.heap.size + 1) [.int .i64 cap, .slice B m d]) := hw0 ▸ Rw.Cel.new_at _ [_, _] _ (by simp)
    have B0 : Hid (Below w.heap.size w w0) := hw0 ▸ bstep (below_alloc _ _) (below_alloc _ _)
    first | rw [hw0] | skip
    clear hw0
    obtain ⟨x0, x1⟩ := C0.out.two
    obtain ⟨y0, y1⟩ := D0.out.two
    go_wp2_with fail
    refine (KR.out w0 (HA.out.on B0.out) (HB.out.on B0.out)).mono ?_
    rintro e w1 ⟨rfl, hb⟩
    have B1 := Lib.hid (bstep B0.out hb)
    clear hb
    go_wp2_with fail
    go_ret
    exact ⟨rfl, B1.out⟩
  · have z1 : (cap == cap') = false := beq_false_of_ne he
    rw [decide_eq_false he, Bool.false_and]
    clear he
    go_enter Try.func15, Try.ntmps15
    go_upto_region 1 with fail
    obtain ⟨w0, hw0⟩ : ∃ W, (w.alloc (.cells #[.int .i64 cap, .slice A n c] 24)).alloc (.cells #[.int .i64 cap', .slice B m d] 24) = W := ⟨_, rfl⟩
    have C0 : Hid (Rw.Cel w0 w.heap.size [.int .i64 cap, .slice A n c]) := hw0 ▸ (Rw.Cel.new w [_, _] _).alloc _
    have D0 : Hid (Rw.Cel w0 (w.heap.size + 1) [.int .i64 cap', .slice B m d]) := hw0 ▸ Rw.Cel.new_at _ [_, _] _ (by simp)
    have B0 : Hid (Below w.heap.size w w0) := hw0 ▸ bstep (below_alloc _ _) (below_alloc _ _)
    first | rw [hw0] | skip
    clear hw0
    obtain ⟨x0, x1⟩ := C0.out.two
    obtain ⟨y0, y1⟩ := D0.out.two
    go_wp2_with fail
    go_ret
    exact ⟨rfl, B0.out⟩
set_option maxHeartbeats 800000 in
theorem law_whole (n : Int) (h0 : 0 ≤ n) (h1 : n ≤ 1099511627776) (w : World) :
    Calls Try.prog 10 #[.int .i64 n] w fun e w' => ∃ v, e = .returned v ∧ IsR w' v (qI n) ∧ Below w.heap.size w w' := by
  have KO := Lib.hid fun W => x_Of n h0 h1 W
  clear h0 h1
  go_enter Try.func10, Try.ntmps10
  go_upto_region 1 with fail
  obtain ⟨w0, hw0⟩ : ∃ W, w.alloc (.cells #[.bool false, .slice none 0 0, .slice none 0 0] 33) = W := ⟨_, rfl⟩
  have C0 : Hid (Rw.Cel w0 w.heap.size [.bool false, .slice none 0 0, .slice none 0 0]) := hw0 ▸ Rw.Cel.new w [_, _, _] _
  have B0 : Hid (Below w.heap.size w w0) := hw0 ▸ below_alloc _ _
  rw [hw0]
  clear hw0
  go_wp2_with fail
  refine (KO.out w0).mono ?_
  rintro e w1 h
  obtain ⟨b, A, n1, c, B, m, d, rfl, ho, hb⟩ := h.open_
  have HO := Lib.hid (ho.zero rfl)
  have B1 := Lib.hid (bstep B0.out hb)
  have C1 := Lib.hid (C0.out.on hb)
  clear h ho hb
  go_upto_region 2 with fail
  obtain ⟨w2, hw2⟩ : ∃ W, w1.alloc (.cells #[.bool b, .slice A n1 c, .slice B m d] 33) = W := ⟨_, rfl⟩
  have b2 : Below w1.heap.size w1 w2 := hw2 ▸ below_alloc _ _
  have C2 := Lib.hid (C1.out.on b2)
  have D2 : Hid (Rw.Cel w2 w1.heap.size [.bool b, .slice A n1 c, .slice B m d]) := hw2 ▸ Rw.Cel.new w1 [_, _, _] _
  have B2 := Lib.hid (bstep B1.out b2)
  replace HO := Lib.hid (HO.out.on b2)
  rw [hw2]
  clear hw2 b2
  obtain ⟨x0, x1, x2⟩ := C2.out.three
  obtain ⟨y0, y1, y2⟩ := C2.out.warm3
  obtain ⟨u0, u1, u2⟩ := D2.out.three
  go_wp2_with fail
  exact bodyPost_ret (res_rat Try.results10 rfl (C2.out.put3 _ _ _)) rfl ⟨_, rfl, InR.put3 HO.out (cel_root C2.out) _ _ _, Rw.below_put3 B2.out (Nat.le_refl _) _ _ _⟩
end Go.Proofs.Ytgmlccjjhmhgbaa.Tank
