/- Several texts in one: TankPI, ChestY, ChestAA. -/
import Derived.Test.YtagjimdplmimoaaGreatPk23
import Derived.Test.YtagjimdplmimoaaGreatPk21
import Derived.Test.YtagjimdplmimoaaGreatPk22
import Derived.Test.YtagjimdplmimoaaGreatPk1
import Derived.OpenShut
import Derived.Deep.Slices
/- The program: Draw. -/
namespace Go.Proofs.YtagjimdplmimoaaGreat.Tank
open Go.ChangeShapes Go.WideShapes Go.RowKit Go.Lib
open Go.Proofs.YtagjimdplmimoaaGreat.Rw (Rd Row Kd Off glt get_lt below_alloc bstep wrap_id below_drewN below_drew drew_below take_snoc_of)
set_option linter.unusedVariables false
set_option maxRecDepth 100000

/-- A tank, what was taken, an error. -/
def DrR (w : World) (err cap : Int) (P T : List Trip) (e : Ending) (w' : World) : Prop :=
  ∃ v A n c, e = .returned (.tuple #[v, .slice A n c, .int .i64 err]) ∧ InT w' v cap P ∧ n = T.length ∧ n ≤ 9223372036854775807 ∧ Rats w' A T ∧ Below w.heap.size w w'
theorem DrR.none_ {w w' : World} {err : Int} (hb : Below w.heap.size w w') : DrR w err 0 [] [] (.returned (.tuple #[.agg #[.int .i64 0, .slice none 0 0], .slice none 0 0, .int .i64 err])) w' := ⟨_, none, 0, 0, rfl, InT.zero _, rfl, by omega, Rats.nil _ _, hb⟩
theorem dr_no {cap : Int} {L : List Trip} {mass E : Int} (h : drE cap L mass = E) (h0 : ¬ E = 0) : drC cap L mass = 0 ∧ drT cap L mass = [] ∧ drP cap L mass = [] := by
  unfold drC drT drP
  rw [h, if_neg h0, if_neg h0, if_neg h0]; exact ⟨rfl, rfl, rfl⟩
theorem dr_yes {cap : Int} {L : List Trip} {mass : Int} (h : drE cap L mass = 0) : drC cap L mass = cap ∧ drT cap L mass = ts (drX L mass) ∧ drP cap L mass = ts (drY L mass) := by
  unfold drC drT drP
  rw [if_pos h, if_pos h, if_pos h]; exact ⟨rfl, rfl, rfl⟩
theorem drE_rng {cap : Int} {L : List Trip} {mass : Int} (h : ckT cap L = 0) (h2 : inM MM mass = false) : drE cap L mass = 1 := by
  unfold drE drM; rw [if_pos h, h2]; rfl
theorem drE_stock {cap : Int} {L : List Trip} {mass : Int} (h : ckT cap L = 0) (h2 : inM MM mass = true) (h3 : cap < mass ∨ 0 < cmpG (qI mass) (sumV L)) : drE cap L mass = 19 := by
  unfold drE drM; rw [if_pos h, if_pos h2, if_pos h3]
theorem drE_tk {cap : Int} {L : List Trip} {mass : Int} (h : ckT cap L = 0) (h2 : inM MM mass = true) (h3 : ¬ (cap < mass ∨ 0 < cmpG (qI mass) (sumV L))) : drE cap L mass = if mass = 0 then 0 else tkF (qI mass) (sumV L) (qs L) := by
  unfold drE drM; rw [if_pos h, if_pos h2, if_neg h3]
theorem drX_len (L : List Trip) (mass : Int) : (drX L mass).length = L.length := by unfold drX; rw [List.length_map, qs_len]
theorem drY_len (L : List Trip) (mass : Int) : (drY L mass).length = L.length := by unfold drY; rw [List.length_map, qs_len]
set_option maxHeartbeats 6400000 in
theorem p_Draw (cap : Int) (L : List Trip) (A : Option Addr) (n c : Nat) (hn : n = L.length) (mass : Int) (w : World) (ha : Rats w A L) (hm : n ≤ 9223372036854775807) :
    Calls Tryz.prog 10 #[.agg #[.int .i64 cap, .slice A n c], .int .i64 mass] w (DrR w (drE cap L mass) (drC cap L mass) (drP cap L mass) (drT cap L mass)) := by
  have HA := Lib.hid ha
  have KL := Lib.hid fun (W : World) (h : Rats W A L) => p_Level cap L A n c hn W h hm
  obtain ⟨E, hE⟩ : ∃ E, ckT cap L = E := ⟨_, rfl⟩
  obtain ⟨V, hV⟩ : ∃ V, sumV L = V := ⟨_, rfl⟩
  obtain ⟨G, hG⟩ : ∃ G, drE cap L mass = G := ⟨_, rfl⟩
  have hno := fun h => dr_no hG h
  have hyes := fun h : G = 0 => dr_yes (hG.trans h)
  obtain ⟨GC, hGC⟩ : ∃ GC, drC cap L mass = GC := ⟨_, rfl⟩
  obtain ⟨GT, hGT⟩ : ∃ GT, drT cap L mass = GT := ⟨_, rfl⟩
  obtain ⟨GP, hGP⟩ : ∃ GP, drP cap L mass = GP := ⟨_, rfl⟩
  rw [hGC, hGT, hGP] at hno hyes
  rw [hE, hV] at KL
  rw [hG, hGC, hGT, hGP]
  have HE := Lib.hid hE
  have HV := Lib.hid hV
  have HG := Lib.hid hG
  have NO := Lib.hid hno
  have YES := Lib.hid hyes
  have HN := Lib.hid hn
  clear ha hn hE hV hG hno hyes hGC hGT hGP hm
  go_enter Tryz.func10, Tryz.ntmps10
  go_upto_region 1 with fail
  obtain ⟨w0, hw0⟩ : ∃ W, ((w.alloc (.cells #[.int .i64 cap, .slice A n c] 32)).alloc (.cells #[.int .i64 mass] 3)).alloc (.cells #[.int .i64 0, .slice none 0 0] 32) = W := ⟨_, rfl⟩
  have C0 : Hid (Rw.Cel w0 w.heap.size [.int .i64 cap, .slice A n c]) := hw0 ▸ ((Rw.Cel.new w [_, _] _).alloc _).alloc _
  have M0 : Hid (Rw.Cel w0 (w.heap.size + 1) [.int .i64 mass]) := hw0 ▸ (Rw.Cel.new_at _ [_] _ (by simp)).alloc _
  have R0 : Hid (Rw.Cel w0 (w.heap.size + 2) [.int .i64 0, .slice none 0 0]) := hw0 ▸ Rw.Cel.new_at _ [_, _] _ (by simp)
  have B0 : Hid (Below w.heap.size w w0) := hw0 ▸ bstep (bstep (below_alloc _ _) (below_alloc _ _)) (below_alloc _ _)
  first | rw [hw0] | skip
  clear hw0
  obtain ⟨x0, x1⟩ := C0.out.two
  go_wp2_with fail
  refine (KL.out w0 (Rats.on HA.out B0.out)).mono ?_
  rintro e w1 h
  obtain ⟨b1, A1, n1, c1, B1, m1, e1, rfl, ho, hb⟩ := h.open_
  have O1 := Lib.hid ho
  have BB1 := Lib.hid (bstep B0.out hb)
  have C1 := Lib.hid (C0.out.on hb)
  have M1 := Lib.hid (M0.out.on hb)
  have R1 := Lib.hid (R0.out.on hb)
  clear h ho hb x0 x1
  go_upto_region 2 with fail
  obtain ⟨w2, hw2⟩ : ∃ W, w1.alloc (.cells #[.bool b1, .slice A1 n1 c1, .slice B1 m1 e1] 46) = W := ⟨_, rfl⟩
  obtain ⟨gl, hgl⟩ : ∃ g, w1.heap.size = g := ⟨_, rfl⟩
  have b2 : Below w1.heap.size w1 w2 := hw2 ▸ below_alloc _ _
  have L2 : Hid (Rw.Cel w2 gl [.bool b1, .slice A1 n1 c1, .slice B1 m1 e1]) := hw2 ▸ hgl ▸ Rw.Cel.new w1 [_, _, _] _
  have BB2 := Lib.hid (bstep BB1.out b2)
  have C2 := Lib.hid (C1.out.on b2)
  have M2 := Lib.hid (M1.out.on b2)
  have R2 := Lib.hid (R1.out.on b2)
  have O2 := Lib.hid (O1.out.on b2)
  have GL : Hid (w.heap.size + 2 < gl) := Lib.hid (by have := R1.out.lt; omega)
  rw [hw2, hgl]
  clear hw2 b2 hgl
  obtain ⟨u0, u1⟩ := R2.out.two
  obtain ⟨v0, v1⟩ := R2.out.warm2
  by_cases hz : E = 0
  rotate_left
  · obtain ⟨z1, z2⟩ := ne_zero hz
    obtain rfl : G = E := by rw [← HG.out, ← HE.out]; exact if_neg (by rw [HE.out]; exact hz)
    obtain ⟨f1, f2, f3⟩ := NO.out hz
    subst f1; subst f2; subst f3
    go_wp2_with fail
    exact bodyPost_ret (res_tank3 Tryz.results10 rfl (R2.out.put2 _ _)) rfl (DrR.none_ (Rw.below_put2 BB2.out (by omega) _ _))
  subst hz
  have HOK := Lib.hid (ckT_of HE.out)
  have O3 := Lib.hid (O2.out.zero rfl)
  have q0 := M2.out.at_ 0 _ rfl
  by_cases h0 : mass < 0
  · have d0 : decide (mass < 0) = true := decide_eq_true h0
    obtain rfl : G = 1 := by rw [← HG.out]; exact drE_rng HE.out (Bool.eq_false_iff.mpr fun h => by have := inM_iff.mp h; omega)
    obtain ⟨f1, f2, f3⟩ := NO.out (by decide)
    subst f1; subst f2; subst f3
    clear h0
    go_wp2_with fail
    exact bodyPost_ret (res_tank3 Tryz.results10 rfl (R2.out.put2 _ _)) rfl (DrR.none_ (Rw.below_put2 BB2.out (by omega) _ _))
  have d0 : decide (mass < 0) = false := decide_eq_false h0
  by_cases h1 : 1099511627776 < mass
  · have d1 : decide (1099511627776 < mass) = true := decide_eq_true h1
    have hMM : MM = 1099511627776 := rfl
    obtain rfl : G = 1 := by rw [← HG.out]; exact drE_rng HE.out (Bool.eq_false_iff.mpr fun h => by have := inM_iff.mp h; omega)
    obtain ⟨f1, f2, f3⟩ := NO.out (by decide)
    subst f1; subst f2; subst f3
    clear h0 h1 hMM
    go_wp2_with fail
    exact bodyPost_ret (res_tank3 Tryz.results10 rfl (R2.out.put2 _ _)) rfl (DrR.none_ (Rw.below_put2 BB2.out (by omega) _ _))
  have d1 : decide (1099511627776 < mass) = false := decide_eq_false h1
  have HI := Lib.hid (show inM MM mass = true from inM_iff.mpr ⟨by omega, Int.not_lt.mp h1⟩)
  have hm0 : 0 ≤ mass := by omega
  have HM0 := Lib.hid hm0
  have hpos := HOK.out.pos
  rw [HV.out] at hpos
  have KF := Lib.hid fun a W k => yq_Floor V hpos.2.2 hpos.1 hpos.2.1 a W k
  have hst := stock_iff HOK.out hm0
  rw [HV.out] at hst
  obtain ⟨Q, hQ⟩ : ∃ Q : Int, (rQ V : Int) = Q := ⟨_, rfl⟩
  rw [hQ] at KF hst
  have HST := Lib.hid hst
  have FV := Lib.hid hpos.2.2
  clear h0 h1 hm0 hpos hst hQ
  obtain ⟨x0, x1, x2⟩ := L2.out.three
  go_upto_region 6 with fail
  go_wp2_with fail
  refine (KF.out _ w2 O3.out).mono ?_
  rintro e w3 ⟨rfl, hb⟩
  have BB3 := Lib.hid (bstep BB2.out hb)
  have C3 := Lib.hid (C2.out.on hb)
  have M3 := Lib.hid (M2.out.on hb)
  have R3 := Lib.hid (R2.out.on hb)
  have L3 := Lib.hid (L2.out.on hb)
  have O4 := Lib.hid (O3.out.on hb)
  clear hb x0 x1 x2 u0 u1 v0 v1 q0
  have q0 := M3.out.at_ 0 _ rfl
  by_cases hs : Q < mass
  · have d2 : decide (Q < mass) = true := decide_eq_true hs
    obtain rfl : G = 19 := by rw [← HG.out]; exact drE_stock HE.out HI.out (by rw [HV.out]; exact HST.out.mp hs)
    obtain ⟨f1, f2, f3⟩ := NO.out (by decide)
    subst f1; subst f2; subst f3
    clear hs
    obtain ⟨u0, u1⟩ := R3.out.two
    obtain ⟨v0, v1⟩ := R3.out.warm2
    go_wp2_with fail
    exact bodyPost_ret (res_tank3 Tryz.results10 rfl (R3.out.put2 _ _)) rfl (DrR.none_ (Rw.below_put2 BB3.out (by omega) _ _))
  have d2 : decide (Q < mass) = false := decide_eq_false hs
  have HTK := Lib.hid (drE_tk HE.out HI.out (by rw [HV.out]; exact fun h => hs (HST.out.mpr h)))
  have hn8 : n ≤ 8 := by have := HOK.out.n1; have := HN.out; omega
  have HN8 := Lib.hid hn8
  have hmk := tk_make n (by omega)
  clear hs hn8
  obtain ⟨x0, x1⟩ := C3.out.two
  go_upto_region 10 with fail
  obtain ⟨gk, hgk⟩ : ∃ g, w3.heap.size = g := ⟨_, rfl⟩
  obtain ⟨w4, hw4⟩ : ∃ W, (w3.alloc (.cells (madeCells #[.bool false, .slice none 0 0, .slice none 0 0] (n * 3)) 46)).alloc (.cells #[.slice (some ⟨gk, 0, none⟩) n n] 30) = W := ⟨_, rfl⟩
  have W4 : Hid (Rw.Row cR 3 TR gk w4 (.slice (some ⟨gk, 0, none⟩) n n) ([] ++ List.replicate (n - 0) zR)) := hw4 ▸ ((hgk ▸ rowT_made w3 n (by have := HN8.out; omega) : Rw.Row cR 3 TR gk (w3.alloc (.cells (madeCells #[.bool false, .slice none 0 0, .slice none 0 0] (n * 3)) 46)) (.slice (some ⟨gk, 0, none⟩) n n) (List.replicate n zR)).on (below_alloc _ _))
  have T4 : Hid (Rw.Cel w4 (gk + 1) [.slice (some ⟨gk, 0, none⟩) n n]) := hw4 ▸ Rw.Cel.new_at _ [_] _ (by simp [hgk])
  have b4 : Below w3.heap.size w3 w4 := hw4 ▸ bstep (below_alloc _ _) (below_alloc _ _)
  have BB4 := Lib.hid (bstep BB3.out b4)
  have C4 := Lib.hid (C3.out.on b4)
  have M4 := Lib.hid (M3.out.on b4)
  have R4 := Lib.hid (R3.out.on b4)
  have L4 := Lib.hid (L3.out.on b4)
  have O5 := Lib.hid (O4.out.on b4)
  have GK : Hid (gl < gk ∧ w.heap.size + 2 < gk) := Lib.hid ⟨by have := L3.out.lt; omega, by have := R3.out.lt; omega⟩
  rw [hgk, hw4]
  clear hw4 hgk b4 hmk x0 x1 q0
  have A4 := Lib.hid (Rats.on HA.out BB4.out)
  have HAb : Hid (∀ b off, A = some ⟨b, off, none⟩ → b < gk) := Lib.hid fun b off e => by
    have := Rats.lt HA.out (by have := HOK.out.n0; omega) b off e
    have := GK.out.2
    omega
  have HVL : Hid (∀ t ∈ L, vT t = true) := fun t ht => (HOK.out.all t ht).1
  have HJ : Hid (DrJ L A mass b1 A1 n1 c1 B1 m1 e1 (w.heap.size + 1) gl (gk + 1) gk n 0 w4) := Lib.hid ⟨A4.out, M4.out, L4.out, HV.out ▸ O5.out, T4.out, ⟨[], rfl, W4.out, by rw [List.take_zero]; exact Ins.nil _⟩, by rw [List.take_zero]; intro q hq; cases hq⟩
  have hmm1 : mass ≤ MM := (inM_iff.mp HI.out).2
  have KC := Lib.hid (p_changed (w := w4) (bcm_draw (B := w4.heap.size) HVL.out (by rw [HV.out]; exact FV.out) HM0.out hmm1 HN.out HN8.out HAb.out (by have := GK.out; omega) GK.out.1 (Nat.lt_succ_self _) T4.out.lt) (drY_len L mass) cap n c HN.out HJ.out HN8.out)
  have hfe := fE_draw (mass := mass) HVL.out
  rw [← HTK.out, HG.out, ← HN.out] at hfe
  rw [hfe] at KC
  clear hfe hmm1
  obtain ⟨x0, x1⟩ := C4.out.two
  go_wp2_with fail
  refine KC.out.mono ?_
  rintro e w5 ⟨x, A3, n3, c3, rfl, ho, hsz, hno5, hyes5⟩
  have O6 := Lib.hid ho
  have NO5 := Lib.hid hno5
  have YES5 := Lib.hid hyes5
  have BB5 : Hid (Below w.heap.size w w5) := Lib.hid (BB4.out.trans (ho.below BB4.out.size fun y hy => by have := GK.out.2; omega))
  have R5 := Lib.hid (R4.out.off ho (by have := GK.out.2; omega))
  have T5 := Lib.hid (T4.out.off ho (by omega))
  clear ho hsz hno5 hyes5 x0 x1
  go_upto_region 11 with fail
  obtain ⟨w6, hw6⟩ : ∃ W, w5.alloc (.cells #[.int .i64 x, .slice A3 n3 c3] 32) = W := ⟨_, rfl⟩
  obtain ⟨gx, hgx⟩ : ∃ g, w5.heap.size = g := ⟨_, rfl⟩
  have b6 : Below w5.heap.size w5 w6 := hw6 ▸ below_alloc _ _
  have D6 : Hid (Rw.Cel w6 gx [.int .i64 x, .slice A3 n3 c3]) := hw6 ▸ hgx ▸ Rw.Cel.new w5 [_, _] _
  have BB6 := Lib.hid (bstep BB5.out b6)
  have HB6 := Lib.hid b6
  have R6 := Lib.hid (R5.out.on b6)
  have T6 := Lib.hid (T5.out.on b6)
  have GX : Hid (w.heap.size + 2 < gx ∧ gk + 1 < gx) := Lib.hid ⟨by have := R5.out.lt; omega, by have := T5.out.lt; omega⟩
  rw [hw6, hgx]
  clear hw6 hgx b6
  obtain ⟨u0, u1⟩ := R6.out.two
  obtain ⟨v0, v1⟩ := R6.out.warm2
  by_cases hz : G = 0
  rotate_left
  · obtain ⟨z1, z2⟩ := ne_zero hz
    obtain ⟨f1, f2, f3⟩ := NO.out hz
    subst f1; subst f2; subst f3
    go_wp2_with fail
    exact bodyPost_ret (res_tank3 Tryz.results10 rfl (R6.out.put2 _ _)) rfl (DrR.none_ (Rw.below_put2 BB6.out (by omega) _ _))
  obtain ⟨f1, f2, f3⟩ := YES.out hz
  obtain ⟨hT, hJ, hfy⟩ := YES5.out hz
  subst f1; subst f2; subst f3; subst hz
  have hfx := hJ.fit
  rw [List.take_of_length_le (by rw [drX_len, ← HN.out]; exact Nat.le_refl _)] at hfx
  obtain ⟨R, hR, hrow, hins⟩ := hJ.row
  rw [List.take_of_length_le (by rw [drX_len, ← HN.out]; exact Nat.le_refl _)] at hins
  obtain ⟨hr, hl⟩ := fill_rats hrow hins hR rfl
  have KT := Lib.hid (InT.tank (InT.on hT HB6.out) (ts_vZ hfy) R6.out (.int .i64 x) (.slice A3 n3 c3))
  have KR := Lib.hid (Rats.tank (Rats.on hr HB6.out) (ts_vZ hfx) R6.out (.int .i64 x) (.slice A3 n3 c3))
  have KN := Lib.hid hl
  have HX := Lib.hid HN8.out
  clear hT hJ hfy hfx hR hrow hins hr hl
  obtain ⟨y0, y1⟩ := D6.out.two
  have s0 := T6.out.at_ 0 _ rfl
  have s1 := (((T6.out.far (p := ⟨w.heap.size + 2, 0, none⟩) (by have := GK.out; dsimp only; omega) (.int .i64 x)).far (p := ⟨w.heap.size + 2, 1, none⟩) (by have := GK.out; dsimp only; omega) (.slice A3 n3 c3))).at_ 0 _ rfl
  have l1 : w.heap.size + 2 < gx := GX.out.1
  have l2 : w.heap.size + 2 < gk + 1 := by have := GK.out; omega
  go_upto_region 13 with fail
  go_region
  all_goals
    go_wp2_with fail
    exact bodyPost_ret (res_tank3 Tryz.results10 rfl (R6.out.put2 _ _).drew) rfl ⟨_, _, _, _, rfl, KT.out, KN.out, by have := HX.out; omega, KR.out, below_drew (Rw.below_put2 BB6.out (by omega) _ _)⟩
end Go.Proofs.YtagjimdplmimoaaGreat.Tank
/- For the walk of ChestNear: stores into boxes of chests and tanks, what comes in. -/
namespace Go.Proofs.YtagjimdplmimoaaGreat.Chest
open Go.ChangeShapes Go.WideShapes Go.RowKit Go.Lib
open Go.Proofs.YtagjimdplmimoaaGreat.Mem (Cl eI Own)
open Go.Proofs.YtagjimdplmimoaaGreat.Tank (MM Kep vZ vT_valid in_nil_any qs ts ts_len triR vT_tri)
open Go.Proofs.YtagjimdplmimoaaGreat.Rw (glt get_lt below_alloc bstep below_drewN below_drew drew_below)
set_option linter.unusedVariables false
set_option maxRecDepth 100000

/-! ### A store into the box of a chest or a tank -/
theorem In.box {w : World} {v : Value} {zs : List Int} {g : Nat} {z : Int} {A : Option Addr} {n c : Nat} (h : In w v zs) (hv : validB zs = true) (hz : z = 0 ∨ z = MM) (hc : Rw.Cel w g [.int .i64 z, .slice A n c]) (x y : Value) : In ((w.setCell ⟨g, 0, none⟩ x).setCell ⟨g, 1, none⟩ y) v zs := by
  rcases hz with rfl | rfl
  · exact Tank.In.tank h hv hc x y
  obtain ⟨c0, c1⟩ := hc.two
  have h2 : In (w.setCell ⟨g, 0, none⟩ x) v zs := by
    obtain ⟨A', d, rfl, h1, h2, h3⟩ := h
    refine ⟨A', d, rfl, h1, h2, fun k z hz => ?_⟩
    obtain ⟨b, off, hA, hlo, hlt, hcell⟩ := h3 k z hz
    refine ⟨b, off, hA, ⟨Nat.zero_le _, Or.inl rfl⟩, by simpa using hlt, ?_⟩
    rw [World.cell?_setCell_other w ⟨g, 0, none⟩ ⟨b, off + k, none⟩ x ?_]
    · exact hcell
    · intro e
      rw [← e] at hcell
      rw [c0] at hcell
      have e2 : z = MM := by
        have := Option.some.inj hcell
        simpa using this.symm
      have hl := lok_at (nrm_lok (valid_nrm hv)) hz
      have hM : MM = 1099511627776 := rfl
      omega
  have c1' : (w.setCell ⟨g, 0, none⟩ x).cell? ⟨g, 1, none⟩ = some (.slice A n c) := (hc.set 0 x).two.2
  exact h2.set c1' (fun z e => by cases e) y
theorem Kep.box {w : World} {g : Nat} {z : Int} {A : Option Addr} {n c : Nat} (hz : z = 0 ∨ z = MM) (hc : Rw.Cel w g [.int .i64 z, .slice A n c]) (x y : Value) : Kep w ((w.setCell ⟨g, 0, none⟩ x).setCell ⟨g, 1, none⟩ y) := fun t v hv hi => by
  obtain ⟨vp, vq, e, h1, h2⟩ := hi
  rcases hv with hv | rfl
  · obtain ⟨v1, v2⟩ := vT_valid hv
    exact ⟨vp, vq, e, In.box h1 v1 hz hc x y, In.box h2 v2 hz hc x y⟩
  · exact ⟨vp, vq, e, in_nil_any h1, in_nil_any h2⟩
theorem Rats.box {w : World} {A : Option Addr} {L : List Trip} (h : Rats w A L) (hv : ∀ t ∈ L, vZ t) {g : Nat} {z : Int} {A0 : Option Addr} {n c : Nat} (hz : z = 0 ∨ z = MM) (hc : Rw.Cel w g [.int .i64 z, .slice A0 n c]) (x y : Value) : Rats ((w.setCell ⟨g, 0, none⟩ x).setCell ⟨g, 1, none⟩ y) A L := by
  intro k t ht
  obtain ⟨b, off, A1, c1, A2, c2, e, hlt, ⟨c0, c1', c2'⟩, i1, i2⟩ := h k t ht
  obtain ⟨j1, j2⟩ := (Kep.box hz hc x y).two (hv t (List.mem_of_getElem? ht)) i1 i2
  obtain ⟨d0, d1⟩ := hc.two
  have hne : b = g → 2 ≤ off + k * 3 := fun hb => by
    subst hb
    rcases Nat.lt_or_ge (off + k * 3) 2 with hl | hl
    · have : off + k * 3 = 0 ∨ off + k * 3 = 1 := by omega
      rcases this with h0 | h0
      · rw [h0, d0] at c0; cases c0
      · rw [h0, d1] at c0; cases c0
    · exact hl
  have hcl : ∀ i, off + k * 3 ≤ i → ((w.setCell ⟨g, 0, none⟩ x).setCell ⟨g, 1, none⟩ y).cell? ⟨b, i, none⟩ = w.cell? ⟨b, i, none⟩ := fun i hi => by
    rw [World.cell?_setCell_other _ ⟨g, 1, none⟩ ⟨b, i, none⟩ y (fun e => by cases e; have := hne rfl; omega), World.cell?_setCell_other _ ⟨g, 0, none⟩ ⟨b, i, none⟩ x (fun e => by cases e; have := hne rfl; omega)]
  exact ⟨b, off, A1, c1, A2, c2, e, by simpa using hlt, ⟨(hcl _ (Nat.le_refl _)).trans c0, (hcl _ (by omega)).trans c1', (hcl _ (by omega)).trans c2'⟩, j1, j2⟩
theorem fil_vZ {L : List Trip} {m : List Int} {cap : Int} (h : ∀ q ∈ Tank.filV (qs L) m, fitR q = true) : ∀ t ∈ Tank.filL cap L m, vZ t := fun t ht => by
  unfold Tank.filL at ht
  split at ht
  · obtain ⟨q, hq, rfl⟩ := List.mem_map.mp ht
    exact Or.inl (vT_tri (h q hq))
  · simp at ht
/-! ### Moves that come in -/
abbrev Mv := List Int × Int
def Mvs (w : World) (A : Option Addr) (L : List Mv) : Prop :=
  ∀ (k : Nat) (s : Mv), L[k]? = some s → ∃ b off A1 c1, A = some ⟨b, off, none⟩ ∧ b < w.heap.size ∧
    (w.cell? ⟨b, off + k * 2, none⟩ = some (.slice A1 s.1.length c1) ∧ w.cell? ⟨b, off + k * 2 + 1, none⟩ = some (.int .i64 s.2)) ∧ Cl eI w A1 s.1 ∧ s.1.length ≤ 9223372036854775807
theorem Mvs.on {w w' : World} {A : Option Addr} {L : List Mv} (h : Mvs w A L) (hb : Below w.heap.size w w') : Mvs w' A L := by
  intro k s hk
  obtain ⟨b, off, A1, c1, e, hlt, ⟨h0, h1⟩, i1, i2⟩ := h k s hk
  exact ⟨b, off, A1, c1, e, Nat.lt_of_lt_of_le hlt hb.size, ⟨(hb.cell (p := ⟨b, _, none⟩) hlt).trans h0, (hb.cell (p := ⟨b, _, none⟩) hlt).trans h1⟩, i1.on hb, i2⟩
section
variable {H : Type} {enc : TypeId × Value → H} {w : World} {held : Bool}
theorem cl_trod {n : Nat} {v : Value} {y : DataW H × List MemPlace} (hf : DataW.trod enc Tryz.prog w 0 (fun _ => true) held n 22 [v] = some y) : ∃ A c L, v = .slice A (L : List Int).length c ∧ Cl eI w A L ∧ L.length ≤ 9223372036854775807 := by
  rcases open_ints Tryz.underlying22 Tryz.underlying3 (by kernel_rfl) hf with ⟨hcs, _⟩ | ⟨x, l, c, zs, hcs, _, hl, hm, hz, _, hcell, hwz⟩
  · simp at hcs
    exact ⟨none, 0, [], hcs, fun k z hz => by simp at hz, by simp⟩
  · simp at hcs
    subst hcs
    have hz' : zs.length = c := by simpa using hz
    have hlen : (zs.take l).length = l := by rw [List.length_take]; omega
    refine ⟨some x, c, zs.take l, by rw [hlen], fun i z hi => ?_, by rw [hlen]; unfold maxLen at hm; omega⟩
    have hin : i < l := by
      rcases Nat.lt_or_ge i l with h1 | h1
      · exact h1
      · rw [List.getElem?_take, if_neg (by omega)] at hi; cases hi
    rw [List.getElem?_take, if_pos hin] at hi
    obtain ⟨b, off, rfl, hc⟩ := ints_at hcell (by omega)
    have hci := hc i (by omega)
    have ez : zs.getD i 0 = z := by rw [List.getD_eq_getElem?_getD, hi]; rfl
    rw [ez] at hci
    exact ⟨b, off, rfl, World.block_lt_of_cell? w _ hci, hci⟩
theorem mv_list {α : Type} {P : Nat → α → Prop} (n : Nat) (h : ∀ i, i < n → ∃ t, P i t) : ∃ L : List α, L.length = n ∧ ∀ i t, L[i]? = some t → P i t := by
  induction n with
  | zero => exact ⟨[], rfl, fun i t hi => by simp at hi⟩
  | succ n ih =>
    obtain ⟨L, hl, hL⟩ := ih fun i hi => h i (by omega)
    obtain ⟨t, ht⟩ := h n (by omega)
    refine ⟨L ++ [t], by simp [hl], fun i u hu => ?_⟩
    rcases Nat.lt_or_ge i L.length with h1 | h1
    · rw [List.getElem?_append_left h1] at hu; exact hL i u hu
    · rw [List.getElem?_append_right h1] at hu
      have : i - L.length = 0 := by
        rcases Nat.eq_zero_or_pos (i - L.length) with h2 | h2
        · exact h2
        · rw [List.getElem?_eq_none (by simp; omega)] at hu; cases hu
      rw [this] at hu
      simp at hu
      have e : i = n := by omega
      subst hu e; exact ht
theorem open_moves {r : Reach} {b0 : Nat} {v : Value} {d : DataW H} {p : List MemPlace} (hv : Value.okWide Tryz.prog w r b0 23 v) (h : DataW.Trod enc Tryz.prog w 0 (fun _ => true) held 23 v d p) :
    ∃ (A : Option Addr) (c : Nat) (L : List Mv), v = .slice A L.length c ∧ Mvs w A L ∧ L.length ≤ 9223372036854775807 := by
  obtain ⟨A0, n0, c0, rfl⟩ := okWide_slice Tryz.underlying23 hv
  obtain ⟨fuel, hf⟩ := h
  rcases Deep.open_slice Tryz.underlying23 hf with ⟨hcs, _⟩ | ⟨a, n, cap, m, k, D, Pl, hcs, _, hl, hm, hmm, _, hel⟩
  · simp [Value.cells] at hcs
    obtain ⟨rfl, rfl, rfl⟩ := hcs
    exact ⟨none, 0, [], rfl, fun k z hz => by simp at hz, by simp⟩
  · simp [Value.cells] at hcs
    obtain ⟨rfl, rfl, rfl⟩ := hcs
    have hmc : m = c0 := by simpa using hmm
    subst hmc
    have hC : Tryz.prog.cellsOf 38 = 2 := by kernel_rfl
    have key : ∀ i, i < n0 → ∃ t : Mv, ∃ b off A1 c1, a = ⟨b, off, none⟩ ∧ b < w.heap.size ∧
        (w.cell? ⟨b, off + i * 2, none⟩ = some (.slice A1 t.1.length c1) ∧ w.cell? ⟨b, off + i * 2 + 1, none⟩ = some (.int .i64 t.2)) ∧ Cl eI w A1 t.1 ∧ t.1.length ≤ 9223372036854775807 := by
      intro i hi
      obtain ⟨cs, hc, ht⟩ := hel i (by omega)
      rw [hC] at hc
      obtain ⟨xs, n', _, _, hlen, hyl, hg⟩ := DataW.trod_struct Tryz.underlying38 ht
      obtain ⟨_, hcl, hat⟩ := World.cells?_some hc
      obtain ⟨c0, c1, rfl⟩ : ∃ c0 c1, cs = [c0, c1] := by
        match cs, hcl with
        | [c0, c1], _ => exact ⟨c0, c1, rfl⟩
      obtain ⟨y0, y1, rfl⟩ : ∃ y0 y1, xs = [y0, y1] := by
        match xs, hyl with
        | [y0, y1], _ => exact ⟨y0, y1, rfl⟩
      have g0 := hg 0 _ rfl
      have g1 := hg 1 _ rfl
      change DataW.trod enc Tryz.prog w 0 (fun _ => true) held n' 22 (([c0, c1].drop 0).take (Tryz.prog.cellsOf 22)) = some y0 at g0
      change DataW.trod enc Tryz.prog w 0 (fun _ => true) held n' 3 (([c0, c1].drop 1).take (Tryz.prog.cellsOf 3)) = some y1 at g1
      rw [show Tryz.prog.cellsOf 22 = 1 by kernel_rfl] at g0
      rw [show Tryz.prog.cellsOf 3 = 1 by kernel_rfl] at g1
      obtain ⟨A1, d1, L1, rfl, hL1, hm1⟩ := cl_trod (v := c0) g0
      obtain ⟨x1, f1, _, _⟩ := DataW.trod_int Tryz.underlying3 g1
      have hb1 : c1 = .int .i64 x1 := by simpa using f1
      subst hb1
      obtain ⟨b, off, spot⟩ := a
      have hspot : spot = none := by
        obtain ⟨cs0, hc0, ht0⟩ := hel 0 (by omega)
        rw [hC] at hc0
        obtain ⟨_, hl0, hat0⟩ := World.cells?_some hc0
        match cs0, hl0 with
        | [z0, z1], _ =>
          have h := hat0 0 (by omega)
          have e : ∀ x : Addr, x.add 0 = x := fun x => by unfold Addr.add; rw [if_pos rfl]
          rw [Nat.zero_mul, e, e] at h
          exact World.cell?_spot h
      subst hspot
      have k : ∀ j, j < 2 → w.cell? ⟨b, off + i * 2 + j, none⟩ = [Value.slice A1 L1.length d1, .int .i64 x1][j]? := fun j hj => by
        have := hat j (by omega)
        rw [Go.WideShapes.add_plain, Go.WideShapes.add_plain] at this
        exact this
      have k0 := k 0 (by omega)
      exact ⟨(L1, x1), b, off, A1, d1, rfl, World.block_lt_of_cell? w _ k0, ⟨k0, k 1 (by omega)⟩, hL1, hm1⟩
    obtain ⟨L, rfl, hL⟩ := mv_list n0 key
    refine ⟨some a, m, L, rfl, fun k t hk => ?_, by unfold maxLen at hm; omega⟩
    obtain ⟨b, off, A1, c1, rfl, h⟩ := hL k t hk
    exact ⟨b, off, A1, c1, rfl, h⟩
end
end Go.Proofs.YtagjimdplmimoaaGreat.Chest
/- The first fill has no overflow (pure). -/
namespace Go.Proofs.YtagjimdplmimoaaGreat.Chest
open Go.Proofs.YtagjimdplmimoaaGreat.Tank (MM lisE_of qI qI_val qI_fit qs ts qs_ts ts_len sumR poV_at poV_len poB_ok qIs qIs_at qIs_len filB filV ckT ckP_ok vT_tri neg_iff)
open Go.Proofs.YtagjimdplmimoaaGreat.Rw (glt get_lt)
set_option linter.unusedVariables false

theorem sumOk_int {a b : Int} (a0 : 0 ≤ a) (a1 : a ≤ 9895604649984) (b0 : 0 ≤ b) (b1 : b ≤ 9895604649984) : sumOk ((a : Int) : Rat) ((b : Int) : Rat) = true := by
  unfold sumOk
  have e1 : (((a : Int) : Rat)).num = a := rfl
  have e2 : (((a : Int) : Rat)).den = 1 := rfl
  have e3 : (((b : Int) : Rat)).num = b := rfl
  have e4 : (((b : Int) : Rat)).den = 1 := rfl
  rw [e1, e2, e3, e4, Nat.mul_one, Nat.mul_one]
  rw [decide_eq_true (small48 (n := a.natAbs) (by omega)), decide_eq_true (small48 (n := b.natAbs) (by omega)), decide_eq_true (small48 (n := 1) (by omega)), decide_eq_true (small48 (n := a.natAbs + b.natAbs) (by omega)), Bool.or_true]
  rfl
theorem tot_ints : ∀ (c : List Int) (s : Int), 0 ≤ s → (∀ z ∈ c, 0 ≤ z ∧ z ≤ MM) → s + c.length * MM ≤ 9895604649984 → tot (qIs c) ((s : Int) : Rat) = some ((s + sumZ c : Int) : Rat)
  | [], s, _, _, _ => by
    rw [show sumZ [] = 0 from rfl, Int.add_zero]; rfl
  | z :: c, s, s0, hz, hl => by
    have hM : MM = 1099511627776 := rfl
    have h1 := hz z (List.mem_cons_self ..)
    rw [List.length_cons, Int.natCast_add] at hl
    have hl2 : ((c.length : Int) + ((1 : Nat) : Int)) * MM = (c.length : Int) * MM + MM := by rw [Int.add_mul]; omega
    have h0 : 0 ≤ (c.length : Int) * MM := Int.mul_nonneg (by omega) (by decide)
    rw [show qIs (z :: c) = qI z :: qIs c from rfl, tot, qI_val, if_pos (sumOk_int s0 (by omega) h1.1 (by omega)), ← Rat.intCast_add, tot_ints c (s + z) (by omega) (fun y hy => hz y (List.mem_cons_of_mem _ hy)) (by omega), sumZ_cons, Int.add_assoc]
theorem ck_ints {c : List Int} (hz : ∀ z ∈ c, 0 ≤ z ∧ z ≤ MM) (h1 : 1 ≤ c.length) (h8 : c.length ≤ 8) : ¬ ckT MM (ts (qIs c)) = 2 := by
  have hf := qIs_mem hz
  have hok := ckP_ok (l := ts (qIs c)) fun j u hu => by
    obtain ⟨q, hq, rfl⟩ := List.mem_map.mp (List.mem_of_getElem? hu)
    exact ⟨vT_tri (hf q hq).1, neg_iff.mpr (hf q hq).2⟩
  have hM : MM = 1099511627776 := rfl
  have hlm : (c.length : Int) * MM ≤ 8 * MM := Int.mul_le_mul_of_nonneg_right (by omega) (by decide)
  have ht := tot_ints c 0 (by omega) hz (by omega)
  have hsz := sumZ_lim hz h8
  rw [Int.zero_add] at ht
  obtain ⟨e1, e2⟩ := sumE_ok (L := ts (qIs c)) (by rw [ts_len, qIs_len]; omega) (List.all_eq_true.mpr fun t ht => by
    obtain ⟨q, hq, rfl⟩ := List.mem_map.mp ht
    exact vT_tri (hf q hq).1) (r := ((sumZ c : Int) : Rat)) (by
    show tot (qs (ts (qIs c))) 0 = _
    rw [qs_ts fun q hq => (hf q hq).1]; exact ht)
  unfold Tank.ckT Tank.ckN Tank.ckS
  rw [if_pos (show (1 : Int) ≤ MM ∧ MM ≤ MM by decide), if_pos (by rw [ts_len, qIs_len]; exact ⟨h1, h8⟩), if_pos hok, if_pos e1, e2]
  have hc : crossOk ((sumZ c : Int) : Rat) (qI MM) = true := by
    unfold crossOk
    rw [qI_val]
    have e1 : (((sumZ c : Int) : Rat)).num = sumZ c := rfl
    have e2 : (((sumZ c : Int) : Rat)).den = 1 := rfl
    have e3 : (((MM : Int) : Rat)).num = MM := rfl
    have e4 : (((MM : Int) : Rat)).den = 1 := rfl
    rw [e1, e2, e3, e4, Nat.mul_one, Nat.mul_one, decide_eq_true (small48 (n := (sumZ c).natAbs) (by omega)), decide_eq_true (small48 (n := MM.natAbs) (by decide))]; rfl
  rw [if_pos hc]
  split <;> decide
theorem zeros_ints (n : Nat) : List.replicate n (0 : Rat) = qIs (List.replicate n 0) := by
  unfold Tank.qIs
  rw [List.map_replicate, Tank.qI_zero0]
theorem first_fill {n : Nat} {m : List Int} (h1 : 1 ≤ n) (h8 : n ≤ 8) (he : filE MM (List.replicate n 0) m = 0) : Tank.filE MM (ts (List.replicate n 0)) m = 0 := by
  have h := Nr.start h1 h8
  rcases h.fill_eq.1 he with h0 | h0
  · exact h0
  exfalso
  obtain ⟨-, hp, -⟩ := filE_of he
  obtain ⟨m1, m2, m3, m4⟩ := lisE_of hp
  have hl : (List.replicate n (0 : Int)).length = n := List.length_replicate
  unfold Tank.filE at h0
  rw [qs_ts h.fit, h.ts_length] at h0
  have hck : ¬ ckT MM (ts (List.replicate n (0 : Rat))) = 2 := by
    rw [zeros_ints]
    exact ck_ints (fun z hz => by rw [List.eq_of_mem_replicate hz]; decide) (by omega) (by omega)
  rcases h.ck with h2 | h2
  rotate_left
  · exact hck h2
  have hv : filV (List.replicate n (0 : Rat)) m = qIs m := by
    apply List.ext_getElem?
    intro k
    rcases Nat.lt_or_ge k m.length with hk | hk
    · obtain ⟨z, hz⟩ := get_lt (L := m) (k := k) hk
      have hr : (List.replicate n (0 : Rat))[k]? = some 0 := by rw [List.getElem?_replicate, if_pos (by omega)]
      rw [qIs_at hz]
      show (Tank.poV _ _)[k]? = _
      rw [poV_at hr (qIs_at hz), Rat.zero_add]
    · have e1 : (filV (List.replicate n (0 : Rat)) m)[k]? = none := by
        apply List.getElem?_eq_none
        show (Tank.poV _ _).length ≤ k
        rw [poV_len (by rw [List.length_replicate, qIs_len]; omega), List.length_replicate]; omega
      rw [e1, List.getElem?_eq_none (by rw [qIs_len]; exact hk)]
  have hb : filB (List.replicate n (0 : Rat)) m = true := poB_ok fun k q x hq hx => by
    have hk := glt hx
    rw [qIs_len] at hk
    obtain ⟨z, hz⟩ := get_lt (L := m) (k := k) hk
    rw [qIs_at hz] at hx
    cases hx
    have h4 := m4 z (List.mem_of_getElem? hz)
    have hM : MM = 1099511627776 := rfl
    rw [List.eq_of_mem_replicate (List.mem_of_getElem? hq), qI_val]
    exact sumOk_int (a := 0) (by omega) (by omega) h4.1 (by omega)
  rw [if_pos h2, if_pos hp, if_pos hb, hv] at h0
  exact ck_ints m4 m1 m2 h0
theorem first_eq {n : Nat} {m : List Int} (h1 : 1 ≤ n) (h8 : n ≤ 8) : filE MM (List.replicate n 0) m = 0 ↔ Tank.filE MM (ts (List.replicate n 0)) m = 0 :=
  ⟨first_fill h1 h8, fun h => by
    rcases Decidable.em (filE MM (List.replicate n 0) m = 0) with h2 | h2
    · exact h2
    · exact absurd h ((Nr.start h1 h8).fill_eq.2 h2)⟩
end Go.Proofs.YtagjimdplmimoaaGreat.Chest
