/- Several texts in one: ChestP, ChestR. -/
import Derived.Test.YtagjimdplmimoaaPk19
import Derived.Test.YtagjimdplmimoaaPk18
import Derived.Test.YtagjimdplmimoaaPk1
/- The program: Pour. -/
namespace Go.Proofs.Ytagjimdplmimoaa.Chest
open Go.ChangeShapes Go.WideShapes Go.RowKit Go.Lib
open Go.Proofs.Ytagjimdplmimoaa.Mem (Cl eI Own)
open Go.Proofs.Ytagjimdplmimoaa.Share (partsL partsL_len own_cl)
open Go.Proofs.Ytagjimdplmimoaa.Tank (MM cl_at lisE_mk)
open Go.Proofs.Ytagjimdplmimoaa.Rw (glt get_lt ret_bool ret_int bstep below_drewN below_drew drew_below below_alloc)
set_option linter.unusedVariables false
set_option maxRecDepth 100000

theorem ch_cel4 {w : World} {g : Nat} {u0 u1 u2 u3 : Value} (h : Rw.Cel w g [u0, u1, u2, u3]) : w.cell? ⟨g, 0, none⟩ = some u0 ∧ w.cell? ⟨g, 1, none⟩ = some u1 ∧ w.cell? ⟨g, 2, none⟩ = some u2 ∧ w.cell? ⟨g, 3, none⟩ = some u3 :=
  ⟨h.at_ 0 _ rfl, h.at_ 1 _ rfl, h.at_ 2 _ rfl, h.at_ 3 _ rfl⟩
theorem fil_parts {ca cb t : Int} {La Lb : List Int} (ha : COk ca La) (hb : ckC cb Lb = 0) (hl : La.length = Lb.length) (t0 : 0 ≤ t) (tl : t ≤ sumZ La) : filE cb Lb (partsL t La) = if cb < sumZ Lb + t then 8 else 0 := by
  have ok := ckC_ok hb
  rw [filE_end hb (lisE_mk (by have := ok.len; omega) (by have := ok.len; omega) (by rw [partsL_len, hl]) (parts_lim ha t0 tl)), dr_sum (dr_ok ha t0 tl)]
set_option maxHeartbeats 3200000 in
theorem ch_Pour (ca cb t : Int) (La Lb : List Int) (A B : Option Addr) (n c m d : Nat) (hn : La.length = n) (hm : Lb.length = m) (w : World) (ha : Cl eI w A La) (hb : Cl eI w B Lb) (h1 : n ≤ 9223372036854775807) (h2 : m ≤ 9223372036854775807) :
    Calls Try.prog 24 #[.agg #[.int .i64 ca, .slice A n c], .agg #[.int .i64 cb, .slice B m d], .int .i64 t] w (PRes w (poE ca La cb Lb t) (poA ca La cb Lb t) (poX ca La cb Lb t) (poB ca La cb Lb t) (poY ca La cb Lb t)) := by
  have HA := Lib.hid ha
  have HB := Lib.hid hb
  have HN := Lib.hid (And.intro hn hm)
  have HH := Lib.hid (And.intro h1 h2)
  have KA := Lib.hid fun (W : World) (h : Cl eI W A La) => ch_Check ca La A n c hn.symm W h h1
  have KB := Lib.hid fun (W : World) (h : Cl eI W B Lb) => ch_Check cb Lb B m d hm.symm W h h2
  have KD := Lib.hid fun (W : World) (h : Cl eI W A La) => ch_Draw ca t La A n c hn W h h1
  obtain ⟨E, hE⟩ : ∃ E, ckC ca La = E := ⟨_, rfl⟩
  obtain ⟨F, hF⟩ : ∃ F, ckC cb Lb = F := ⟨_, rfl⟩
  rw [hE] at KA
  rw [hF] at KB
  have HE := Lib.hid (And.intro hE hF)
  clear ha hb hn hm h1 h2 hE hF
  go_enter Try.func24, Try.ntmps24
  go_upto_region 1 with fail
  have X1 := Lib.hid (Bxs.new w ca A n c cb B m d)
  have B1 : Hid (Below w.heap.size w ((((w.alloc (.cells #[.int .i64 ca, .slice A n c] 24)).alloc (.cells #[.int .i64 cb, .slice B m d] 24)).alloc (.cells #[.int .i64 0, .slice none 0 0] 24)).alloc (.cells #[.int .i64 0, .slice none 0 0] 24))) := Lib.hid (bstep (bstep (bstep (below_alloc _ _) (below_alloc _ _)) (below_alloc _ _)) (below_alloc _ _))
  obtain ⟨w1, hw1⟩ : ∃ W, (((w.alloc (.cells #[.int .i64 ca, .slice A n c] 24)).alloc (.cells #[.int .i64 cb, .slice B m d] 24)).alloc (.cells #[.int .i64 0, .slice none 0 0] 24)).alloc (.cells #[.int .i64 0, .slice none 0 0] 24) = W := ⟨_, rfl⟩
  rw [hw1] at X1 B1 ⊢
  clear hw1
  obtain ⟨x0, x1⟩ := X1.out.a.two
  obtain ⟨x2, x3⟩ := X1.out.b.two
  go_upto_region 2 with fail
  obtain ⟨wl, hwl⟩ : ∃ W, w1.alloc (.cells #[.int .i64 ca, .slice A n c, .int .i64 cb, .slice B m d] 24) = W := ⟨_, rfl⟩
  have L1 : Hid (Rw.Cel wl w1.heap.size [.int .i64 ca, .slice A n c, .int .i64 cb, .slice B m d]) := hwl ▸ Rw.Cel.new w1 [_, _, _, _] _
  have BL : Hid (Below w.heap.size w wl) := Lib.hid (bstep B1.out (hwl ▸ below_alloc _ _))
  have XL : Hid (Bxs w.heap.size ca A n c cb B m d wl) := Lib.hid (X1.out.on (hwl ▸ below_alloc _ _))
  rw [hwl]
  clear hwl x0 x1 x2 x3 X1 B1
  go_loopw [20, 10, 11] (fun i _ _ wr => (i = .int .i64 0 ∨ (i = .int .i64 1 ∧ E = 0) ∨ (i = .int .i64 2 ∧ E = 0 ∧ F = 0)) ∧ Below wl.heap.size wl wr) (fun i _ _ _ => 2 - (RowKit.intOf i).toNat)
  case atStart => exact ⟨Or.inl rfl, Below.refl _ _⟩
  case round =>
    obtain ⟨hi, hbel⟩ := hrel
    have HW := Lib.hid hbel
    clear hbel
    obtain ⟨y0, y1, y2, y3⟩ := ch_cel4 (L1.out.on HW.out)
    rcases hi with rfl | ⟨rfl, rfl⟩ | ⟨rfl, rfl, rfl⟩
    · go_wp2_with fail
      refine (KA.out _ (HA.out.on (bstep (bstep BL.out HW.out) (below_alloc _ _)))).mono ?_
      rintro e w3 ⟨rfl, hb⟩
      have HW3 := Lib.hid (bstep HW.out (bstep (below_alloc _ _) hb))
      clear hb y0 y1 y2 y3
      by_cases hz : E = 0
      rotate_left
      · obtain ⟨z1, z2⟩ := ne_zero hz
        have HEE := Lib.hid (po_no (cb := cb) (t := t) (Lb := Lb) ((poE_a (by rw [HE.out.1]; exact hz)).trans HE.out.1) hz)
        have X3 := Lib.hid (XL.out.on HW3.out)
        have B3 := Lib.hid (bstep BL.out HW3.out)
        clear hz
        obtain ⟨u0, u1⟩ := X3.out.x.two
        obtain ⟨v0, v1⟩ := X3.out.x.warm2
        obtain ⟨u2, u3⟩ := (far2 X3.out.y (k := w.heap.size + 2) (by omega) (.int .i64 0) (.slice none 0 0)).two
        obtain ⟨v2, v3⟩ := (far2 X3.out.y (k := w.heap.size + 2) (by omega) (.int .i64 0) (.slice none 0 0)).warm2
        go_wp2_with fail
        exact bodyPost_ret (X3.out.none_ Try.results24 rfl rfl) rfl (by rw [HEE.out.1, HEE.out.2.1, HEE.out.2.2.1, HEE.out.2.2.2.1, HEE.out.2.2.2.2]; exact PRes.none_ (Rw.below_put2 (Rw.below_put2 B3.out (by omega) _ _) (by omega) _ _))
      subst hz
      go_wp2_with fail
      go_roundw
      case rel => exact ⟨by simp, HW3.out⟩
      case measure => decide
    · go_wp2_with fail
      refine (KB.out _ (HB.out.on (bstep (bstep BL.out HW.out) (below_alloc _ _)))).mono ?_
      rintro e w3 ⟨rfl, hb⟩
      have HW3 := Lib.hid (bstep HW.out (bstep (below_alloc _ _) hb))
      clear hb y0 y1 y2 y3
      by_cases hz : F = 0
      rotate_left
      · obtain ⟨z1, z2⟩ := ne_zero hz
        have HEE := Lib.hid (po_no (cb := cb) (t := t) (Lb := Lb) ((poE_b HE.out.1 (by rw [HE.out.2]; exact hz)).trans HE.out.2) hz)
        have X3 := Lib.hid (XL.out.on HW3.out)
        have B3 := Lib.hid (bstep BL.out HW3.out)
        clear hz
        obtain ⟨u0, u1⟩ := X3.out.x.two
        obtain ⟨v0, v1⟩ := X3.out.x.warm2
        obtain ⟨u2, u3⟩ := (far2 X3.out.y (k := w.heap.size + 2) (by omega) (.int .i64 0) (.slice none 0 0)).two
        obtain ⟨v2, v3⟩ := (far2 X3.out.y (k := w.heap.size + 2) (by omega) (.int .i64 0) (.slice none 0 0)).warm2
        go_wp2_with fail
        exact bodyPost_ret (X3.out.none_ Try.results24 rfl rfl) rfl (by rw [HEE.out.1, HEE.out.2.1, HEE.out.2.2.1, HEE.out.2.2.2.1, HEE.out.2.2.2.2]; exact PRes.none_ (Rw.below_put2 (Rw.below_put2 B3.out (by omega) _ _) (by omega) _ _))
      subst hz
      go_wp2_with fail
      go_roundw
      case rel => exact ⟨by simp, HW3.out⟩
      case measure => decide
    · have X3 := Lib.hid (XL.out.on HW.out)
      have B3 := Lib.hid (bstep BL.out HW.out)
      clear y0 y1 y2 y3 L1 BL XL HW KA KB
      obtain ⟨x0, x1⟩ := X3.out.a.two
      obtain ⟨x2, x3⟩ := X3.out.b.two
      by_cases hq : n = m
      rotate_left
      · have q1 : ((n : Int) == (m : Int)) = false := by simp; omega
        have q2 : ((n : Int) != (m : Int)) = true := by simp; omega
        have HEE := Lib.hid (po_no (cb := cb) (t := t) (Lb := Lb) (poE_len HE.out.1 HE.out.2 (by have := HN.out; omega)) (by decide))
        clear hq
        obtain ⟨u0, u1⟩ := X3.out.x.two
        obtain ⟨v0, v1⟩ := X3.out.x.warm2
        obtain ⟨u2, u3⟩ := (far2 X3.out.y (k := w.heap.size + 2) (by omega) (.int .i64 0) (.slice none 0 0)).two
        obtain ⟨v2, v3⟩ := (far2 X3.out.y (k := w.heap.size + 2) (by omega) (.int .i64 0) (.slice none 0 0)).warm2
        go_wp2_with fail
        exact bodyPost_ret (X3.out.none_ Try.results24 rfl rfl) rfl (by rw [HEE.out.1, HEE.out.2.1, HEE.out.2.2.1, HEE.out.2.2.2.1, HEE.out.2.2.2.2]; exact PRes.none_ (Rw.below_put2 (Rw.below_put2 B3.out (by omega) _ _) (by omega) _ _))
      subst hq
      have q1 : ((n : Int) == (n : Int)) = true := by simp
      have q2 : ((n : Int) != (n : Int)) = false := by simp
      obtain ⟨G, hG⟩ : ∃ G, drE ca La t = G := ⟨_, rfl⟩
      have HG := Lib.hid hG
      rw [hG] at KD
      have hlen : La.length = Lb.length := by have := HN.out; omega
      have HLN := Lib.hid hlen
      clear hG hlen
      go_wp2_with fail
      refine (KD.out _ (HA.out.on B3.out)).mono ?_
      rintro e w4 ⟨A4, n4, c4, A5, n5, c5, rfl, hl4, hl5, ho4, ho5, hb⟩
      have B4 := Lib.hid (bstep B3.out hb)
      have X4 := Lib.hid (X3.out.on hb)
      have O4 := Lib.hid (ho4.less (B' := w.heap.size + 4) X3.out.size)
      have O5 := Lib.hid (ho5.less (B' := w.heap.size + 4) X3.out.size)
      have HL := Lib.hid (And.intro hl4 hl5)
      clear hl4 hl5 ho4 ho5 hb x0 x1 x2 x3 X3 B3 KD
      obtain ⟨Q, hQ⟩ : ∃ Q, drC ca La t = Q := ⟨_, rfl⟩
      rw [hQ]
      have B5 : Hid (Below w.heap.size w (w4.alloc (.cells #[.int .i64 Q, .slice A4 n4 c4] 24))) := Lib.hid (bstep B4.out (below_alloc _ _))
      have X5 := Lib.hid (X4.out.on (below_alloc w4 (.cells #[.int .i64 Q, .slice A4 n4 c4] 24)))
      by_cases hz : G = 0
      rotate_left
      · obtain ⟨z1, z2⟩ := ne_zero hz
        have HEE := Lib.hid (po_no (cb := cb) (t := t) (Lb := Lb) ((poE_dr HE.out.1 HE.out.2 HLN.out (by rw [HG.out]; exact hz)).trans HG.out) hz)
        clear hz hQ
        obtain ⟨u0, u1⟩ := X5.out.x.two
        obtain ⟨v0, v1⟩ := X5.out.x.warm2
        obtain ⟨u2, u3⟩ := (far2 X5.out.y (k := w.heap.size + 2) (by omega) (.int .i64 0) (.slice none 0 0)).two
        obtain ⟨v2, v3⟩ := (far2 X5.out.y (k := w.heap.size + 2) (by omega) (.int .i64 0) (.slice none 0 0)).warm2
        go_wp2_with fail
        exact bodyPost_ret (X5.out.none_ Try.results24 rfl rfl) rfl (by rw [HEE.out.1, HEE.out.2.1, HEE.out.2.2.1, HEE.out.2.2.2.1, HEE.out.2.2.2.2]; exact PRes.none_ (Rw.below_put2 (Rw.below_put2 B5.out (by omega) _ _) (by omega) _ _))
      subst hz
      obtain ⟨dC, dL, dM⟩ := dr_yes HG.out
      rw [dC] at hQ
      subst hQ
      rw [dL] at O4 HL
      rw [dM] at O5 HL
      obtain ⟨oka, t0, tle⟩ := drE_of HG.out
      have hf := fil_parts (cb := cb) oka HE.out.2 HLN.out t0 tle
      have e0 := poE_end (t := t) HE.out.1 HE.out.2 HLN.out HG.out
      rw [← hf] at e0
      have C5 := Lib.hid (Rw.Cel.new w4 [.int .i64 ca, .slice A4 n4 c4] 24)
      have P4 := Lib.hid (O4.out.alloc (.cells #[.int .i64 ca, .slice A4 n4 c4] 24))
      have P5 := Lib.hid (O5.out.alloc (.cells #[.int .i64 ca, .slice A4 n4 c4] 24))
      obtain ⟨w5, hw5⟩ : ∃ W, w4.alloc (.cells #[.int .i64 ca, .slice A4 n4 c4] 24) = W := ⟨_, rfl⟩
      have Z5 := Lib.hid X4.out.size
      have h5n : n5 ≤ 9223372036854775807 := by have := HL.out.2; rw [partsL_len] at this; have := HN.out; have := HH.out; omega
      have KF := Lib.hid fun (W : World) (h : Below w5.heap.size w5 W) => ch_Fill cb Lb (partsL t La) B A5 n d n5 c5 HN.out.2 HL.out.2 W (HB.out.on (bstep (hw5 ▸ B5.out) h)) (own_cl ((hw5 ▸ P5.out : Own eI 3 (w.heap.size + 4) w5 (.slice A5 n5 c5) (partsL t La)).on h)) HH.out.1 h5n
      obtain ⟨H, hH⟩ : ∃ H, filE cb Lb (partsL t La) = H := ⟨_, rfl⟩
      rw [hH] at KF e0
      have HFE := Lib.hid hH
      have HPE := Lib.hid e0
      clear O4 O5 X4 B4 oka t0 tle hf e0 hH dC dL dM h5n
      rw [hw5] at B5 X5 C5 P4 P5
      obtain ⟨x2, x3⟩ := X5.out.b.two
      go_wp2_with fail
      clear hw5
      refine (KF.out _ (Below.refl _ _)).mono ?_
      rintro e w6 ⟨A6, n6, c6, rfl, hl6, ho6, hb⟩
      obtain ⟨R, hR⟩ : ∃ R, filC cb Lb (partsL t La) = R := ⟨_, rfl⟩
      rw [hR]
      have B6 := Lib.hid (bstep (bstep B5.out hb) (below_alloc w6 (.cells #[.int .i64 R, .slice A6 n6 c6] 24)))
      have X6 := Lib.hid ((X5.out.on hb).on (below_alloc w6 (.cells #[.int .i64 R, .slice A6 n6 c6] 24)))
      have C6 := Lib.hid ((C5.out.on hb).alloc (.cells #[.int .i64 R, .slice A6 n6 c6] 24))
      have D6 := Lib.hid (Rw.Cel.new w6 [.int .i64 R, .slice A6 n6 c6] 24)
      have P6 := Lib.hid ((P4.out.on hb).alloc (.cells #[.int .i64 R, .slice A6 n6 c6] 24))
      have Q6 := Lib.hid ((ho6.less (B' := w.heap.size + 4) X5.out.size).alloc (.cells #[.int .i64 R, .slice A6 n6 c6] 24))
      have Z6 : Hid (w.heap.size + 4 ≤ w6.heap.size) := Lib.hid (Nat.le_trans X5.out.size hb.size)
      have HL6 := Lib.hid hl6
      clear hb hl6 ho6 x2 x3 P4 P5 KF C5
      by_cases hz : H = 0
      rotate_left
      · obtain ⟨z1, z2⟩ := ne_zero hz
        have HEE := Lib.hid (po_no HPE.out hz)
        clear hz hR
        obtain ⟨u0, u1⟩ := X6.out.x.two
        obtain ⟨v0, v1⟩ := X6.out.x.warm2
        obtain ⟨u2, u3⟩ := (far2 X6.out.y (k := w.heap.size + 2) (by omega) (.int .i64 0) (.slice none 0 0)).two
        obtain ⟨v2, v3⟩ := (far2 X6.out.y (k := w.heap.size + 2) (by omega) (.int .i64 0) (.slice none 0 0)).warm2
        go_wp2_with fail
        exact bodyPost_ret (X6.out.none_ Try.results24 rfl rfl) rfl (by rw [HEE.out.1, HEE.out.2.1, HEE.out.2.2.1, HEE.out.2.2.2.1, HEE.out.2.2.2.2]; exact PRes.none_ (Rw.below_put2 (Rw.below_put2 B6.out (by omega) _ _) (by omega) _ _))
      subst hz
      have HEE := Lib.hid (po_yes HPE.out)
      have e2 : filC cb Lb (partsL t La) = cb := if_pos HFE.out
      have e3 : filL cb Lb (partsL t La) = plusL Lb (partsL t La) := if_pos HFE.out
      rw [e2] at hR
      subst hR
      rw [e3] at Q6 HL6
      clear e2 e3
      obtain ⟨w7, hw7⟩ : ∃ W, w6.alloc (.cells #[.int .i64 cb, .slice A6 n6 c6] 24) = W := ⟨_, rfl⟩
      rw [hw7] at B6 X6 C6 D6 P6 Q6
      go_wp2_with fail
      clear hw7
      have g1 : ¬ w4.heap.size = w.heap.size + 1 + 1 := by have := Z5.out; omega
      have g2 : ¬ w4.heap.size = w.heap.size + 1 + 1 + 1 := by have := Z5.out; omega
      have g3 : ¬ w6.heap.size = w.heap.size + 1 + 1 := by have := Z6.out; omega
      have g4 : ¬ w6.heap.size = w.heap.size + 1 + 1 + 1 := by have := Z6.out; omega
      have g5 : ¬ w.heap.size + 1 + 1 = w4.heap.size := by have := Z5.out; omega
      have g6 : ¬ w.heap.size + 1 + 1 + 1 = w4.heap.size := by have := Z5.out; omega
      have g7 : ¬ w.heap.size + 1 + 1 = w6.heap.size := by have := Z6.out; omega
      have g8 : ¬ w.heap.size + 1 + 1 + 1 = w6.heap.size := by have := Z6.out; omega
      obtain ⟨s0, s1⟩ := C6.out.two
      obtain ⟨s2, s3⟩ := D6.out.two
      obtain ⟨u0, u1⟩ := X6.out.x.two
      obtain ⟨v0, v1⟩ := X6.out.x.warm2
      obtain ⟨u2, u3⟩ := X6.out.y.two
      obtain ⟨v2, v3⟩ := X6.out.y.warm2
      go_region
      all_goals
        go_wp2_with fail
        exact bodyPost_ret (res_chests Try.results24 rfl rfl (Rw.Cel.drew (far2 (k := w.heap.size + 3) (X6.out.x.put2 _ _) (by omega) _ _)) (Rw.Cel.drew ((far2 (k := w.heap.size + 2) X6.out.y (by omega) _ _).put2 _ _))) rfl (by
          rw [HEE.out.1, HEE.out.2.1, HEE.out.2.2.1, HEE.out.2.2.2.1, HEE.out.2.2.2.2]
          exact ⟨_, _, _, _, _, _, rfl, HL.out.1, HL6.out,
            Own.drew (own_far2 (own_far2 (P6.out.less (by omega)) (fun e => by have h1 := (P6.out.lt _ e).1; omega) _ _) (fun e => by have h1 := (P6.out.lt _ e).1; omega) _ _),
            Own.drew (own_far2 (own_far2 (Q6.out.less (by omega)) (fun e => by have h1 := (Q6.out.lt _ e).1; omega) _ _) (fun e => by have h1 := (Q6.out.lt _ e).1; omega) _ _),
            below_drew (Rw.below_put2 (Rw.below_put2 B6.out (by omega) _ _) (by omega) _ _)⟩)
end Go.Proofs.Ytagjimdplmimoaa.Chest
/- What comes in; the laws that compare with the reference: News, Checks, Moves, Pours (gen18/r.py). -/
namespace Go.Proofs.Ytagjimdplmimoaa.Chest
open Go.ChangeShapes Go.WideShapes Go.RowKit Go.Lib
open Go.Proofs.Ytagjimdplmimoaa.Mem (Cl eI Own)
open Go.Proofs.Ytagjimdplmimoaa.Share (own_cl same_n)
open Go.Proofs.Ytagjimdplmimoaa.Rw (glt get_lt below_alloc bstep below_drewN below_drew drew_below)
set_option linter.unusedVariables false
set_option maxRecDepth 100000

theorem in_cl {w : World} {A : Option Addr} {n c : Nat} {zs : List Int} (h : InInts .i64 w A n c zs) : Cl eI w A zs ∧ zs.length = n ∧ n ≤ 9223372036854775807 := by
  obtain ⟨h1, h2, h3, _, h4⟩ := h
  refine ⟨h4, h1.symm, ?_⟩
  unfold maxLen at h3; omega
theorem same_eq {x : Int} {L : List Int} {A B : Option Addr} {n m c d : Nat} (hn : L.length = n) (hm : L.length = m) {w : World} (ha : Cl eI w A L) (hb : Cl eI w B L) (h1 : n ≤ 9223372036854775807) :
    Calls Try.prog 11 #[.agg #[.int .i64 x, .slice A n c], .agg #[.int .i64 x, .slice B m d]] w fun e w' => e = .returned (.bool true) ∧ Below w.heap.size w w' := by
  have h := cr_Same x x L L A B n m c d hn hm w ha hb h1 (by omega)
  rw [decide_eq_true (And.intro (rfl : x = x) (rfl : L = L))] at h
  exact h
theorem list_eq {L : List Int} {A B : Option Addr} {n m c d : Nat} (hn : L.length = n) (hm : L.length = m) {w : World} (ha : Cl eI w A L) (hb : Cl eI w B L) (h1 : n ≤ 9223372036854775807) :
    Calls Try.prog 23 #[.slice A n c, .slice B m d] w fun e w' => e = .returned (.bool true) ∧ Below w.heap.size w w' := by
  have h := same_n L L n m hn hm A B c d w ha hb h1 (by omega)
  rw [decide_eq_true (rfl : L = L)] at h
  exact h
section
variable {H : Type} {enc : TypeId × Value → H} {w : World} {held : Bool}
/-- A chest that came in. -/
theorem open_chest {r : Reach} {b0 : Nat} {v : Value} {d : DataW H} {p : List MemPlace} (hv : Value.okWide Try.prog w r b0 24 v) (h : DataW.Trod enc Try.prog w 0 (fun _ => true) held 24 v d p) :
    ∃ (cap : Int) (A : Option Addr) (c : Nat) (L : List Int), v = .agg #[.int .i64 cap, .slice A L.length c] ∧ Cl eI w A L ∧ L.length ≤ 9223372036854775807 := by
  obtain ⟨v0, v1, y0, y1, n, rfl, _, _, h0, h1⟩ := Go.Joins.open_agg2 Try.underlying24 (by kernel_rfl) (by kernel_rfl) hv h
  obtain ⟨x0, f0, _, _⟩ := DataW.trod_int Try.underlying3 h0
  simp at f0
  subst f0
  rcases open_ints Try.underlying22 Try.underlying3 (by kernel_rfl) h1 with ⟨hcs, _⟩ | ⟨x, l, c, zs, hcs, _, hl, hm, hz, _, hcell, hwz⟩
  · simp at hcs
    subst hcs
    exact ⟨x0, none, 0, [], rfl, fun k z hz => by simp at hz, by simp⟩
  · simp at hcs
    subst hcs
    have hz' : zs.length = c := by simpa using hz
    have hlen : (zs.take l).length = l := by rw [List.length_take]; omega
    refine ⟨x0, some x, c, zs.take l, by rw [hlen], fun i z hi => ?_, by rw [hlen]; unfold maxLen at hm; omega⟩
    have hin : i < l := by
      rcases Nat.lt_or_ge i l with h1 | h1
      · exact h1
      · rw [List.getElem?_take, if_neg (by omega)] at hi; cases hi
    rw [List.getElem?_take, if_pos hin] at hi
    obtain ⟨b, off, rfl, hc⟩ := ints_at hcell (by omega)
    have hci := hc i (by omega)
    have ez : zs.getD i 0 = z := by rw [List.getD_eq_getElem?_getD, hi]; rfl
    rw [ez] at hci
    exact ⟨b, off, rfl, World.block_lt_of_cell? w _ hci, hci⟩
end
set_option maxHeartbeats 6400000 in
theorem walk_ChestNews (w : World) (kinds cap : Int) :
    Calls Try.prog 3 #[.int .i64 kinds, .int .i64 cap] w fun e w' => e = .returned (.bool true) ∧ Below w.heap.size w w' := by
  have KQ := Lib.hid fun W => law_awake W
  have K1 := Lib.hid fun W => ch_New kinds cap W
  have K2 := Lib.hid fun W => cr_New kinds cap W
  obtain ⟨E, hE⟩ : ∃ x, nwE kinds cap = x := ⟨_, rfl⟩
  obtain ⟨C, hC⟩ : ∃ x, nwC kinds cap = x := ⟨_, rfl⟩
  obtain ⟨L, hL⟩ : ∃ x, nwL kinds cap = x := ⟨_, rfl⟩
  have hl : L.length ≤ 8 := by
    rw [← hL]; unfold nwL
    split
    · rename_i h
      unfold nwE at h
      split at h
      · rw [List.length_replicate]; omega
      · cases h
    · simp
  rw [hE, hC, hL] at K1 K2
  have HLL := Lib.hid hl
  have HB := Lib.hid (Below.refl w.heap.size w)
  clear hE hC hL hl
  go_enter Try.func3, Try.ntmps3
  go_wp2_with fail
  refine (K1.out w).mono ?_
  rintro e w1 ⟨A1, n1, c1, rfl, hl1, ho, hb⟩
  have X1 := Lib.hid (own_cl ho)
  have N1 := Lib.hid hl1
  replace HB := Lib.hid (bstep HB.out hb)
  clear hb ho hl1
  go_upto_region 2 with fail
  obtain ⟨w2, hw⟩ : ∃ W, w1.alloc (.cells #[.int .i64 C, .slice A1 n1 c1] 24) = W := ⟨_, rfl⟩
  obtain ⟨gC1, hg⟩ : ∃ g, w1.heap.size = g := ⟨_, rfl⟩
  have hb : Below w1.heap.size w1 w2 := hw ▸ below_alloc _ _
  have C1 : Hid (Rw.Cel w2 gC1 [.int .i64 C, .slice A1 n1 c1]) := hw ▸ hg ▸ Rw.Cel.new w1 [_, _] _
  replace HB := Lib.hid (bstep HB.out hb)
  replace X1 := Lib.hid (X1.out.on hb)
  first | rw [hw, hg] | rw [hw]
  clear hw hg hb
  go_wp2_with fail
  refine (K2.out w2).mono ?_
  rintro e w3 ⟨A2, n2, c2, rfl, hl2, ho, hb⟩
  have X2 := Lib.hid (own_cl ho)
  have N2 := Lib.hid hl2
  replace HB := Lib.hid (bstep HB.out hb)
  replace X1 := Lib.hid (X1.out.on hb)
  replace C1 := Lib.hid (C1.out.on hb)
  clear hb ho hl2
  go_upto_region 3 with fail
  obtain ⟨w4, hw⟩ : ∃ W, w3.alloc (.cells #[.int .i64 C, .slice A2 n2 c2] 24) = W := ⟨_, rfl⟩
  obtain ⟨gC2, hg⟩ : ∃ g, w3.heap.size = g := ⟨_, rfl⟩
  have hb : Below w3.heap.size w3 w4 := hw ▸ below_alloc _ _
  have C2 : Hid (Rw.Cel w4 gC2 [.int .i64 C, .slice A2 n2 c2]) := hw ▸ hg ▸ Rw.Cel.new w3 [_, _] _
  replace HB := Lib.hid (bstep HB.out hb)
  replace X1 := Lib.hid (X1.out.on hb)
  replace C1 := Lib.hid (C1.out.on hb)
  replace X2 := Lib.hid (X2.out.on hb)
  first | rw [hw, hg] | rw [hw]
  clear hw hg hb
  obtain ⟨x0, x1⟩ := C1.out.two
  obtain ⟨y0, y1⟩ := C2.out.two
  go_wp2_with fail
  refine (same_eq N1.out N2.out X1.out X2.out (by have := N1.out; have := HLL.out; omega)).mono ?_
  rintro e w5 ⟨rfl, hb⟩
  replace HB := Lib.hid (bstep HB.out hb)
  replace X1 := Lib.hid (X1.out.on hb)
  replace C1 := Lib.hid (C1.out.on hb)
  replace X2 := Lib.hid (X2.out.on hb)
  replace C2 := Lib.hid (C2.out.on hb)
  clear hb x0 x1 y0 y1
  go_wp2_with fail
  refine (KQ.out _).mono ?_
  rintro e wq ⟨rfl, hb⟩
  have HF := Lib.hid (bstep HB.out hb)
  clear hb
  go_wp2_with fail
  go_ret
  exact ⟨rfl, HF.out⟩
set_option maxHeartbeats 6400000 in
theorem walk_ChestChecks (w : World) (cap : Int) (A : Option Addr) (c : Nat) (L : List Int) (ha : Cl eI w A L) (hm : L.length ≤ 9223372036854775807) (k : Int) :
    Calls Try.prog 4 #[.agg #[.int .i64 cap, .slice A L.length c], .int .i64 k] w fun e w' => e = .returned (.bool true) ∧ Below w.heap.size w w' := by
  have HA := Lib.hid ha
  have KQ := Lib.hid fun W => law_awake W
  obtain ⟨n, hn⟩ : ∃ n, L.length = n := ⟨_, rfl⟩
  rw [hn] at hm ⊢
  have K1 := Lib.hid fun (W : World) (h : Cl eI W A L) => ch_Level cap L A n c hn.symm W h hm
  have K2 := Lib.hid fun (W : World) (h : Cl eI W A L) => cr_Level cap L A n c hn.symm W h hm
  have K3 := Lib.hid fun (W : World) (h : Cl eI W A L) => ch_Rate cap k L A n c hn W h hm
  have K4 := Lib.hid fun (W : World) (h : Cl eI W A L) => cr_Rate cap k L A n c hn W h hm
  have K5 := Lib.hid fun (W : World) (h : Cl eI W A L) => ch_Check cap L A n c hn.symm W h hm
  have K6 := Lib.hid fun (W : World) (h : Cl eI W A L) => cr_Check cap L A n c hn.symm W h hm
  obtain ⟨E, hE⟩ : ∃ x, ckC cap L = x := ⟨_, rfl⟩
  obtain ⟨V, hV⟩ : ∃ x, levV cap L = x := ⟨_, rfl⟩
  obtain ⟨RV, hRV⟩ : ∃ x, ratV cap L k = x := ⟨_, rfl⟩
  obtain ⟨RE, hRE⟩ : ∃ x, ratE cap L k = x := ⟨_, rfl⟩
  rw [hE, hV] at K1 K2
  rw [hRE, hRV] at K3 K4
  rw [hE] at K5 K6
  clear hE hV hRE hRV
  have HN := Lib.hid hn
  clear ha hn
  go_enter Try.func4, Try.ntmps4
  go_upto_region 1 with fail
  obtain ⟨w0, hw0⟩ : ∃ W, w.alloc (.cells #[.int .i64 cap, .slice A n c] 24) = W := ⟨_, rfl⟩
  have C0 : Hid (Rw.Cel w0 w.heap.size [.int .i64 cap, .slice A n c]) := hw0 ▸ Rw.Cel.new w [_, _] _
  have HB : Hid (Below w.heap.size w w0) := hw0 ▸ below_alloc _ _
  rw [hw0]
  clear hw0
  by_cases hl : 20 < n
  · have d0 : decide ((20 : Int) < (n : Int)) = true := decide_eq_true (by omega)
    obtain ⟨x0, x1⟩ := C0.out.two
    go_wp2_with fail
    refine (KQ.out _).mono ?_
    rintro e wq ⟨rfl, hb⟩
    have HF := Lib.hid (bstep HB.out hb)
    clear hb
    go_wp2_with fail
    go_ret
    exact ⟨rfl, HF.out⟩
  have d0 : decide ((20 : Int) < (n : Int)) = false := decide_eq_false (by omega)
  obtain ⟨x0, x1⟩ := C0.out.two
  go_wp2_with fail
  refine (K1.out w0 (HA.out.on HB.out)).mono ?_
  rintro e w1 ⟨rfl, hb⟩
  replace HB := Lib.hid (bstep HB.out hb)
  replace C0 := Lib.hid (C0.out.on hb)
  clear hb x0 x1
  obtain ⟨x0, x1⟩ := C0.out.two
  go_wp2_with fail
  refine (K2.out w1 (HA.out.on HB.out)).mono ?_
  rintro e w2 ⟨rfl, hb⟩
  replace HB := Lib.hid (bstep HB.out hb)
  replace C0 := Lib.hid (C0.out.on hb)
  clear hb x0 x1
  obtain ⟨x0, x1⟩ := C0.out.two
  go_wp2_with fail
  refine (K3.out w2 (HA.out.on HB.out)).mono ?_
  rintro e w3 ⟨rfl, hb⟩
  replace HB := Lib.hid (bstep HB.out hb)
  replace C0 := Lib.hid (C0.out.on hb)
  clear hb x0 x1
  obtain ⟨x0, x1⟩ := C0.out.two
  go_wp2_with fail
  refine (K4.out w3 (HA.out.on HB.out)).mono ?_
  rintro e w4 ⟨rfl, hb⟩
  replace HB := Lib.hid (bstep HB.out hb)
  replace C0 := Lib.hid (C0.out.on hb)
  clear hb x0 x1
  have HX := Lib.hid fun (W : World) (h : Below w4.heap.size w4 W) => (C0.out.on h).two
  have K7 := Lib.hid fun (W : World) (h : Below w4.heap.size w4 W) => K5.out W (HA.out.on (bstep HB.out h))
  have K8 := Lib.hid fun (W : World) (h : Below w4.heap.size w4 W) => K6.out W (HA.out.on (bstep HB.out h))
  obtain ⟨x0, x1⟩ := C0.out.two
  go_wp2_with fail
  clear x0 x1
  have HBL := Lib.hid (Below.refl w4.heap.size w4)
  go_region_held3 (fun W => W.cell? ⟨w.heap.size, 0, none⟩ = some (.int .i64 cap) ∧ W.cell? ⟨w.heap.size, 1, none⟩ = some (.slice A n c))
    (first | exact HX.out _ HBL.out | exact HX.out _ (bstep HBL.out (drew_below _)))
    ((first
      | (go_at_call 17; (with_reducible refine (K7.out _ (bstep HBL.out (drew_below _))).mono ?_); rintro e wa ⟨rfl, hba⟩; (replace HBL := Lib.hid (bstep (bstep HBL.out (drew_below _)) hba)); clear hba)
      | (go_at_call 17; (with_reducible refine (K7.out _ HBL.out).mono ?_); rintro e wa ⟨rfl, hba⟩; (replace HBL := Lib.hid (bstep HBL.out hba)); clear hba)
      | (go_at_call 18; (with_reducible refine (K8.out _ (bstep HBL.out (drew_below _))).mono ?_); rintro e wb ⟨rfl, hbb⟩; (replace HBL := Lib.hid (bstep (bstep HBL.out (drew_below _)) hbb)); clear hbb)
      | (go_at_call 18; (with_reducible refine (K8.out _ HBL.out).mono ?_); rintro e wb ⟨rfl, hbb⟩; (replace HBL := Lib.hid (bstep HBL.out hbb)); clear hbb)
      | (go_at_call 12; (with_reducible refine (KQ.out _).mono ?_); rintro e wc ⟨rfl, hbc⟩; (replace HBL := Lib.hid (bstep HBL.out hbc)); clear hbc)))
  all_goals
    go_wp2_with fail
    go_ret
    exact ⟨rfl, bstep HB.out HBL.out⟩
theorem fil_short (cap : Int) (L M : List Int) : (filL cap L M).length ≤ 8 := by
  unfold filL
  split
  · rename_i h
    by_cases h1 : ckC cap L = 0
    · have := (ckC_ok h1).len
      unfold plusL
      rw [List.length_zipWith]; omega
    · rw [filE_ck h1] at h; exact absurd h h1
  · simp
theorem drw_short (cap t : Int) (L : List Int) : (drL cap L t).length ≤ 8 ∧ (drM cap L t).length ≤ 8 := by
  unfold drL drM
  split
  · rename_i h
    have := (drE_of h).1.len
    rw [less_len (Share.partsL_len t L), Share.partsL_len]; omega
  · simp
set_option maxHeartbeats 6400000 in
theorem walk_ChestMoves (w : World) (cap : Int) (A : Option Addr) (c : Nat) (L : List Int) (ha : Cl eI w A L) (hm : L.length ≤ 9223372036854775807) (B : Option Addr) (m d : Nat) (M : List Int) (k : InInts .i64 w B m d M) (t : Int) :
    Calls Try.prog 5 #[.agg #[.int .i64 cap, .slice A L.length c], .slice B m d, .int .i64 t] w fun e w' => e = .returned (.bool true) ∧ Below w.heap.size w w' := by
  have HA := Lib.hid ha
  have KQ := Lib.hid fun W => law_awake W
  obtain ⟨n, hn⟩ : ∃ n, L.length = n := ⟨_, rfl⟩
  rw [hn] at hm ⊢
  obtain ⟨hk1, hk2, hk3⟩ := in_cl k
  have HM := Lib.hid hk1
  have K1 := Lib.hid fun (W : World) (h : Cl eI W A L) (j : Cl eI W B M) => ch_Fill cap L M A B n c m d hn hk2 W h j hm hk3
  have K2 := Lib.hid fun (W : World) (h : Cl eI W A L) (j : Cl eI W B M) => cr_Fill cap L M A B n c m d hn hk2 W h j hm hk3
  have K3 := Lib.hid fun (W : World) (h : Cl eI W A L) => ch_Draw cap t L A n c hn W h hm
  have K4 := Lib.hid fun (W : World) (h : Cl eI W A L) => cr_Draw cap t L A n c hn W h hm
  have HS := Lib.hid (fil_short cap L M)
  have HT := Lib.hid (drw_short cap t L)
  obtain ⟨E, hE⟩ : ∃ x, filE cap L M = x := ⟨_, rfl⟩
  obtain ⟨FC, hFC⟩ : ∃ x, filC cap L M = x := ⟨_, rfl⟩
  obtain ⟨FL, hFL⟩ : ∃ x, filL cap L M = x := ⟨_, rfl⟩
  obtain ⟨G, hG⟩ : ∃ x, drE cap L t = x := ⟨_, rfl⟩
  obtain ⟨DC, hDC⟩ : ∃ x, drC cap L t = x := ⟨_, rfl⟩
  obtain ⟨DL, hDL⟩ : ∃ x, drL cap L t = x := ⟨_, rfl⟩
  obtain ⟨DM, hDM⟩ : ∃ x, drM cap L t = x := ⟨_, rfl⟩
  rw [hE, hFC, hFL] at K1 K2
  rw [hG, hDC, hDL, hDM] at K3 K4
  rw [hFL] at HS
  rw [hDL, hDM] at HT
  clear hE hFC hFL hG hDC hDL hDM hk1 hk2 hk3 k
  have HN := Lib.hid hn
  clear ha hn
  go_enter Try.func5, Try.ntmps5
  go_upto_region 1 with fail
  obtain ⟨w0, hw0⟩ : ∃ W, w.alloc (.cells #[.int .i64 cap, .slice A n c] 24) = W := ⟨_, rfl⟩
  have C0 : Hid (Rw.Cel w0 w.heap.size [.int .i64 cap, .slice A n c]) := hw0 ▸ Rw.Cel.new w [_, _] _
  have HB : Hid (Below w.heap.size w w0) := hw0 ▸ below_alloc _ _
  rw [hw0]
  clear hw0
  by_cases hl : 20 < n
  · have d0 : decide ((20 : Int) < (n : Int)) = true := decide_eq_true (by omega)
    obtain ⟨x0, x1⟩ := C0.out.two
    go_wp2_with fail
    refine (KQ.out _).mono ?_
    rintro e wq ⟨rfl, hb⟩
    have HF := Lib.hid (bstep HB.out hb)
    clear hb
    go_wp2_with fail
    go_ret
    exact ⟨rfl, HF.out⟩
  have d0 : decide ((20 : Int) < (n : Int)) = false := decide_eq_false (by omega)
  by_cases hl2 : 20 < m
  · have d1 : decide ((20 : Int) < (m : Int)) = true := decide_eq_true (by omega)
    obtain ⟨x0, x1⟩ := C0.out.two
    go_wp2_with fail
    refine (KQ.out _).mono ?_
    rintro e wq ⟨rfl, hb⟩
    have HF := Lib.hid (bstep HB.out hb)
    clear hb
    go_wp2_with fail
    go_ret
    exact ⟨rfl, HF.out⟩
  have d1 : decide ((20 : Int) < (m : Int)) = false := decide_eq_false (by omega)
  obtain ⟨x0, x1⟩ := C0.out.two
  go_wp2_with fail
  refine (K1.out w0 (HA.out.on HB.out) (HM.out.on HB.out)).mono ?_
  rintro e w1 ⟨A1, n1, c1, rfl, hl1, ho, hb⟩
  have X1 := Lib.hid (own_cl ho)
  have N1 := Lib.hid hl1
  replace HB := Lib.hid (bstep HB.out hb)
  replace C0 := Lib.hid (C0.out.on hb)
  clear hb ho hl1 x0 x1
  go_upto_region 4 with fail
  obtain ⟨w2, hw⟩ : ∃ W, w1.alloc (.cells #[.int .i64 FC, .slice A1 n1 c1] 24) = W := ⟨_, rfl⟩
  obtain ⟨gC1, hg⟩ : ∃ g, w1.heap.size = g := ⟨_, rfl⟩
  have hb : Below w1.heap.size w1 w2 := hw ▸ below_alloc _ _
  have C1 : Hid (Rw.Cel w2 gC1 [.int .i64 FC, .slice A1 n1 c1]) := hw ▸ hg ▸ Rw.Cel.new w1 [_, _] _
  replace HB := Lib.hid (bstep HB.out hb)
  replace C0 := Lib.hid (C0.out.on hb)
  replace X1 := Lib.hid (X1.out.on hb)
  first | rw [hw, hg] | rw [hw]
  clear hw hg hb
  obtain ⟨x0, x1⟩ := C0.out.two
  go_wp2_with fail
  refine (K2.out w2 (HA.out.on HB.out) (HM.out.on HB.out)).mono ?_
  rintro e w3 ⟨A2, n2, c2, rfl, hl2, ho, hb⟩
  have X2 := Lib.hid (own_cl ho)
  have N2 := Lib.hid hl2
  replace HB := Lib.hid (bstep HB.out hb)
  replace C0 := Lib.hid (C0.out.on hb)
  replace X1 := Lib.hid (X1.out.on hb)
  replace C1 := Lib.hid (C1.out.on hb)
  clear hb ho hl2 x0 x1
  go_upto_region 5 with fail
  obtain ⟨w4, hw⟩ : ∃ W, w3.alloc (.cells #[.int .i64 FC, .slice A2 n2 c2] 24) = W := ⟨_, rfl⟩
  obtain ⟨gC2, hg⟩ : ∃ g, w3.heap.size = g := ⟨_, rfl⟩
  have hb : Below w3.heap.size w3 w4 := hw ▸ below_alloc _ _
  have C2 : Hid (Rw.Cel w4 gC2 [.int .i64 FC, .slice A2 n2 c2]) := hw ▸ hg ▸ Rw.Cel.new w3 [_, _] _
  replace HB := Lib.hid (bstep HB.out hb)
  replace C0 := Lib.hid (C0.out.on hb)
  replace X1 := Lib.hid (X1.out.on hb)
  replace C1 := Lib.hid (C1.out.on hb)
  replace X2 := Lib.hid (X2.out.on hb)
  first | rw [hw, hg] | rw [hw]
  clear hw hg hb
  obtain ⟨x0, x1⟩ := C0.out.two
  go_wp2_with fail
  refine (K3.out w4 (HA.out.on HB.out)).mono ?_
  rintro e w5 ⟨A3, n3, c3, M3, m3, d3, rfl, hl3, hm3, ho, hp, hb⟩
  have X3 := Lib.hid (own_cl ho)
  have Y3 := Lib.hid (own_cl hp)
  have N3 := Lib.hid (And.intro hl3 hm3)
  replace HB := Lib.hid (bstep HB.out hb)
  replace C0 := Lib.hid (C0.out.on hb)
  replace X1 := Lib.hid (X1.out.on hb)
  replace C1 := Lib.hid (C1.out.on hb)
  replace X2 := Lib.hid (X2.out.on hb)
  replace C2 := Lib.hid (C2.out.on hb)
  clear hb ho hp hl3 hm3 x0 x1
  go_upto_region 6 with fail
  obtain ⟨w6, hw⟩ : ∃ W, w5.alloc (.cells #[.int .i64 DC, .slice A3 n3 c3] 24) = W := ⟨_, rfl⟩
  obtain ⟨gC3, hg⟩ : ∃ g, w5.heap.size = g := ⟨_, rfl⟩
  have hb : Below w5.heap.size w5 w6 := hw ▸ below_alloc _ _
  have C3 : Hid (Rw.Cel w6 gC3 [.int .i64 DC, .slice A3 n3 c3]) := hw ▸ hg ▸ Rw.Cel.new w5 [_, _] _
  replace HB := Lib.hid (bstep HB.out hb)
  replace C0 := Lib.hid (C0.out.on hb)
  replace X1 := Lib.hid (X1.out.on hb)
  replace C1 := Lib.hid (C1.out.on hb)
  replace X2 := Lib.hid (X2.out.on hb)
  replace C2 := Lib.hid (C2.out.on hb)
  replace X3 := Lib.hid (X3.out.on hb)
  replace Y3 := Lib.hid (Y3.out.on hb)
  first | rw [hw, hg] | rw [hw]
  clear hw hg hb
  obtain ⟨x0, x1⟩ := C0.out.two
  go_wp2_with fail
  refine (K4.out w6 (HA.out.on HB.out)).mono ?_
  rintro e w7 ⟨A4, n4, c4, M4, m4, d4, rfl, hl4, hm4, ho, hp, hb⟩
  have X4 := Lib.hid (own_cl ho)
  have Y4 := Lib.hid (own_cl hp)
  have N4 := Lib.hid (And.intro hl4 hm4)
  replace HB := Lib.hid (bstep HB.out hb)
  replace C0 := Lib.hid (C0.out.on hb)
  replace X1 := Lib.hid (X1.out.on hb)
  replace C1 := Lib.hid (C1.out.on hb)
  replace X2 := Lib.hid (X2.out.on hb)
  replace C2 := Lib.hid (C2.out.on hb)
  replace X3 := Lib.hid (X3.out.on hb)
  replace Y3 := Lib.hid (Y3.out.on hb)
  replace C3 := Lib.hid (C3.out.on hb)
  clear hb ho hp hl4 hm4 x0 x1
  go_upto_region 7 with fail
  obtain ⟨w8, hw⟩ : ∃ W, w7.alloc (.cells #[.int .i64 DC, .slice A4 n4 c4] 24) = W := ⟨_, rfl⟩
  obtain ⟨gC4, hg⟩ : ∃ g, w7.heap.size = g := ⟨_, rfl⟩
  have hb : Below w7.heap.size w7 w8 := hw ▸ below_alloc _ _
  have C4 : Hid (Rw.Cel w8 gC4 [.int .i64 DC, .slice A4 n4 c4]) := hw ▸ hg ▸ Rw.Cel.new w7 [_, _] _
  replace HB := Lib.hid (bstep HB.out hb)
  replace C0 := Lib.hid (C0.out.on hb)
  replace X1 := Lib.hid (X1.out.on hb)
  replace C1 := Lib.hid (C1.out.on hb)
  replace X2 := Lib.hid (X2.out.on hb)
  replace C2 := Lib.hid (C2.out.on hb)
  replace X3 := Lib.hid (X3.out.on hb)
  replace Y3 := Lib.hid (Y3.out.on hb)
  replace C3 := Lib.hid (C3.out.on hb)
  replace X4 := Lib.hid (X4.out.on hb)
  replace Y4 := Lib.hid (Y4.out.on hb)
  first | rw [hw, hg] | rw [hw]
  clear hw hg hb
  obtain ⟨x0, x1⟩ := C1.out.two
  obtain ⟨y0, y1⟩ := C2.out.two
  go_wp2_with fail
  refine (same_eq N1.out N2.out X1.out X2.out (by have := N1.out; have := HS.out; omega)).mono ?_
  rintro e w9 ⟨rfl, hb⟩
  replace HB := Lib.hid (bstep HB.out hb)
  replace C0 := Lib.hid (C0.out.on hb)
  replace X1 := Lib.hid (X1.out.on hb)
  replace C1 := Lib.hid (C1.out.on hb)
  replace X2 := Lib.hid (X2.out.on hb)
  replace C2 := Lib.hid (C2.out.on hb)
  replace X3 := Lib.hid (X3.out.on hb)
  replace Y3 := Lib.hid (Y3.out.on hb)
  replace C3 := Lib.hid (C3.out.on hb)
  replace X4 := Lib.hid (X4.out.on hb)
  replace Y4 := Lib.hid (Y4.out.on hb)
  replace C4 := Lib.hid (C4.out.on hb)
  clear hb x0 x1 y0 y1
  obtain ⟨x0, x1⟩ := C3.out.two
  obtain ⟨y0, y1⟩ := C4.out.two
  go_wp2_with fail
  refine (same_eq N3.out.1 N4.out.1 X3.out X4.out (by have := N3.out; have := HT.out; omega)).mono ?_
  rintro e w10 ⟨rfl, hb⟩
  replace HB := Lib.hid (bstep HB.out hb)
  replace C0 := Lib.hid (C0.out.on hb)
  replace X1 := Lib.hid (X1.out.on hb)
  replace C1 := Lib.hid (C1.out.on hb)
  replace X2 := Lib.hid (X2.out.on hb)
  replace C2 := Lib.hid (C2.out.on hb)
  replace X3 := Lib.hid (X3.out.on hb)
  replace Y3 := Lib.hid (Y3.out.on hb)
  replace C3 := Lib.hid (C3.out.on hb)
  replace X4 := Lib.hid (X4.out.on hb)
  replace Y4 := Lib.hid (Y4.out.on hb)
  replace C4 := Lib.hid (C4.out.on hb)
  clear hb x0 x1 y0 y1
  go_wp2_with fail
  refine (list_eq N3.out.2 N4.out.2 Y3.out Y4.out (by have := N3.out; have := HT.out; omega)).mono ?_
  rintro e w11 ⟨rfl, hb⟩
  replace HB := Lib.hid (bstep HB.out hb)
  replace C0 := Lib.hid (C0.out.on hb)
  replace X1 := Lib.hid (X1.out.on hb)
  replace C1 := Lib.hid (C1.out.on hb)
  replace X2 := Lib.hid (X2.out.on hb)
  replace C2 := Lib.hid (C2.out.on hb)
  replace X3 := Lib.hid (X3.out.on hb)
  replace Y3 := Lib.hid (Y3.out.on hb)
  replace C3 := Lib.hid (C3.out.on hb)
  replace X4 := Lib.hid (X4.out.on hb)
  replace Y4 := Lib.hid (Y4.out.on hb)
  replace C4 := Lib.hid (C4.out.on hb)
  clear hb
  go_wp2_with fail
  refine (KQ.out _).mono ?_
  rintro e wq ⟨rfl, hb⟩
  have HF := Lib.hid (bstep HB.out hb)
  clear hb
  go_wp2_with fail
  go_ret
  exact ⟨rfl, HF.out⟩
theorem pou_short (ca : Int) (La : List Int) (cb : Int) (Lb : List Int) (t : Int) : (poX ca La cb Lb t).length ≤ 8 ∧ (poY ca La cb Lb t).length ≤ 8 := by
  unfold poX poY
  split
  · rename_i h
    have h1 : ckC ca La = 0 := by
      by_cases h1 : ckC ca La = 0
      · exact h1
      · rw [poE_a h1] at h; exact absurd h h1
    have := (ckC_ok h1).len
    rw [less_len (Share.partsL_len t La)]
    unfold plusL
    rw [List.length_zipWith, Share.partsL_len]; omega
  · simp
set_option maxHeartbeats 6400000 in
theorem walk_ChestPours (w : World) (cap : Int) (A : Option Addr) (c : Nat) (L : List Int) (ha : Cl eI w A L) (hm : L.length ≤ 9223372036854775807) (cb : Int) (B : Option Addr) (d : Nat) (M : List Int) (ha2 : Cl eI w B M) (hm2 : M.length ≤ 9223372036854775807) (t : Int) :
    Calls Try.prog 6 #[.agg #[.int .i64 cap, .slice A L.length c], .agg #[.int .i64 cb, .slice B M.length d], .int .i64 t] w fun e w' => e = .returned (.bool true) ∧ Below w.heap.size w w' := by
  have HA := Lib.hid ha
  have HA2 := Lib.hid ha2
  have KQ := Lib.hid fun W => law_awake W
  obtain ⟨n, hn⟩ : ∃ n, L.length = n := ⟨_, rfl⟩
  obtain ⟨m, hn2⟩ : ∃ n, M.length = n := ⟨_, rfl⟩
  rw [hn] at hm ⊢
  rw [hn2] at hm2 ⊢
  have K1 := Lib.hid fun (W : World) (h : Cl eI W A L) (j : Cl eI W B M) => ch_Pour cap cb t L M A B n c m d hn hn2 W h j hm hm2
  have K2 := Lib.hid fun (W : World) (h : Cl eI W A L) (j : Cl eI W B M) => cr_Pour cap cb t L M A B n c m d hn hn2 W h j hm hm2
  have HS := Lib.hid (pou_short cap L cb M t)
  obtain ⟨E, hE⟩ : ∃ x, poE cap L cb M t = x := ⟨_, rfl⟩
  obtain ⟨PA, hPA⟩ : ∃ x, poA cap L cb M t = x := ⟨_, rfl⟩
  obtain ⟨PX, hPX⟩ : ∃ x, poX cap L cb M t = x := ⟨_, rfl⟩
  obtain ⟨PB, hPB⟩ : ∃ x, poB cap L cb M t = x := ⟨_, rfl⟩
  obtain ⟨PY, hPY⟩ : ∃ x, poY cap L cb M t = x := ⟨_, rfl⟩
  rw [hE, hPA, hPX, hPB, hPY] at K1 K2
  rw [hPX, hPY] at HS
  clear ha ha2 hn hn2 hE hPA hPX hPB hPY
  go_enter Try.func6, Try.ntmps6
  go_upto_region 1 with fail
  obtain ⟨w0, hw0⟩ : ∃ W, (w.alloc (.cells #[.int .i64 cap, .slice A n c] 24)).alloc (.cells #[.int .i64 cb, .slice B m d] 24) = W := ⟨_, rfl⟩
  have C0 : Hid (Rw.Cel w0 w.heap.size [.int .i64 cap, .slice A n c]) := hw0 ▸ (Rw.Cel.new w [_, _] _).alloc _
  have D0 : Hid (Rw.Cel w0 (w.heap.size + 1) [.int .i64 cb, .slice B m d]) := hw0 ▸ Rw.Cel.new_at _ [_, _] _ (by simp)
  have HB : Hid (Below w.heap.size w w0) := hw0 ▸ bstep (below_alloc _ _) (below_alloc _ _)
  rw [hw0]
  clear hw0
  by_cases hl : 20 < n
  · have d0 : decide ((20 : Int) < (n : Int)) = true := decide_eq_true (by omega)
    obtain ⟨x0, x1⟩ := C0.out.two
    go_wp2_with fail
    refine (KQ.out _).mono ?_
    rintro e wq ⟨rfl, hb⟩
    have HF := Lib.hid (bstep HB.out hb)
    clear hb
    go_wp2_with fail
    go_ret
    exact ⟨rfl, HF.out⟩
  have d0 : decide ((20 : Int) < (n : Int)) = false := decide_eq_false (by omega)
  by_cases hl2 : 20 < m
  · have d1 : decide ((20 : Int) < (m : Int)) = true := decide_eq_true (by omega)
    obtain ⟨x0, x1⟩ := C0.out.two
    obtain ⟨y0, y1⟩ := D0.out.two
    go_wp2_with fail
    refine (KQ.out _).mono ?_
    rintro e wq ⟨rfl, hb⟩
    have HF := Lib.hid (bstep HB.out hb)
    clear hb
    go_wp2_with fail
    go_ret
    exact ⟨rfl, HF.out⟩
  have d1 : decide ((20 : Int) < (m : Int)) = false := decide_eq_false (by omega)
  obtain ⟨x0, x1⟩ := C0.out.two
  obtain ⟨y0, y1⟩ := D0.out.two
  go_wp2_with fail
  refine (K1.out w0 (HA.out.on HB.out) (HA2.out.on HB.out)).mono ?_
  rintro e w1 ⟨A0, n0, c0, M0, m0, d0', rfl, hl, hl', ho, hp, hb⟩
  have X0 := Lib.hid (own_cl ho)
  have Y0 := Lib.hid (own_cl hp)
  have N0 := Lib.hid (And.intro hl hl')
  replace HB := Lib.hid (bstep HB.out hb)
  replace C0 := Lib.hid (C0.out.on hb)
  replace D0 := Lib.hid (D0.out.on hb)
  clear hb ho hp hl hl' x0 x1 y0 y1
  go_upto_region 4 with fail
  obtain ⟨w2, hw⟩ : ∃ W, (w1.alloc (.cells #[.int .i64 PA, .slice A0 n0 c0] 24)).alloc (.cells #[.int .i64 PB, .slice M0 m0 d0'] 24) = W := ⟨_, rfl⟩
  obtain ⟨g0, hg⟩ : ∃ g, w1.heap.size = g := ⟨_, rfl⟩
  have hb : Below w1.heap.size w1 w2 := hw ▸ bstep (below_alloc _ _) (below_alloc _ _)
  have P0 : Hid (Rw.Cel w2 g0 [.int .i64 PA, .slice A0 n0 c0]) := hw ▸ hg ▸ (Rw.Cel.new w1 [_, _] _).alloc _
  have Q0 : Hid (Rw.Cel w2 (g0 + 1) [.int .i64 PB, .slice M0 m0 d0']) := hw ▸ hg ▸ Rw.Cel.new_at _ [_, _] _ (by simp)
  replace HB := Lib.hid (bstep HB.out hb)
  replace C0 := Lib.hid (C0.out.on hb)
  replace D0 := Lib.hid (D0.out.on hb)
  replace X0 := Lib.hid (X0.out.on hb)
  replace Y0 := Lib.hid (Y0.out.on hb)
  rw [hw, hg]
  clear hw hg hb
  obtain ⟨x0, x1⟩ := C0.out.two
  obtain ⟨y0, y1⟩ := D0.out.two
  go_wp2_with fail
  refine (K2.out w2 (HA.out.on HB.out) (HA2.out.on HB.out)).mono ?_
  rintro e w3 ⟨A1, n1, c1, M1, m1, d1', rfl, hl, hl', ho, hp, hb⟩
  have X1 := Lib.hid (own_cl ho)
  have Y1 := Lib.hid (own_cl hp)
  have N1 := Lib.hid (And.intro hl hl')
  replace HB := Lib.hid (bstep HB.out hb)
  replace C0 := Lib.hid (C0.out.on hb)
  replace D0 := Lib.hid (D0.out.on hb)
  replace X0 := Lib.hid (X0.out.on hb)
  replace Y0 := Lib.hid (Y0.out.on hb)
  replace P0 := Lib.hid (P0.out.on hb)
  replace Q0 := Lib.hid (Q0.out.on hb)
  clear hb ho hp hl hl' x0 x1 y0 y1
  go_upto_region 5 with fail
  obtain ⟨w4, hw⟩ : ∃ W, (w3.alloc (.cells #[.int .i64 PA, .slice A1 n1 c1] 24)).alloc (.cells #[.int .i64 PB, .slice M1 m1 d1'] 24) = W := ⟨_, rfl⟩
  obtain ⟨g1, hg⟩ : ∃ g, w3.heap.size = g := ⟨_, rfl⟩
  have hb : Below w3.heap.size w3 w4 := hw ▸ bstep (below_alloc _ _) (below_alloc _ _)
  have P1 : Hid (Rw.Cel w4 g1 [.int .i64 PA, .slice A1 n1 c1]) := hw ▸ hg ▸ (Rw.Cel.new w3 [_, _] _).alloc _
  have Q1 : Hid (Rw.Cel w4 (g1 + 1) [.int .i64 PB, .slice M1 m1 d1']) := hw ▸ hg ▸ Rw.Cel.new_at _ [_, _] _ (by simp)
  replace HB := Lib.hid (bstep HB.out hb)
  replace C0 := Lib.hid (C0.out.on hb)
  replace D0 := Lib.hid (D0.out.on hb)
  replace X0 := Lib.hid (X0.out.on hb)
  replace Y0 := Lib.hid (Y0.out.on hb)
  replace P0 := Lib.hid (P0.out.on hb)
  replace Q0 := Lib.hid (Q0.out.on hb)
  replace X1 := Lib.hid (X1.out.on hb)
  replace Y1 := Lib.hid (Y1.out.on hb)
  rw [hw, hg]
  clear hw hg hb
  obtain ⟨x0, x1⟩ := P0.out.two
  obtain ⟨y0, y1⟩ := P1.out.two
  go_wp2_with fail
  refine (same_eq N0.out.1 N1.out.1 X0.out X1.out (by have := N0.out; have := HS.out; omega)).mono ?_
  rintro e w5 ⟨rfl, hb⟩
  replace HB := Lib.hid (bstep HB.out hb)
  replace C0 := Lib.hid (C0.out.on hb)
  replace D0 := Lib.hid (D0.out.on hb)
  replace X0 := Lib.hid (X0.out.on hb)
  replace Y0 := Lib.hid (Y0.out.on hb)
  replace P0 := Lib.hid (P0.out.on hb)
  replace Q0 := Lib.hid (Q0.out.on hb)
  replace X1 := Lib.hid (X1.out.on hb)
  replace Y1 := Lib.hid (Y1.out.on hb)
  replace P1 := Lib.hid (P1.out.on hb)
  replace Q1 := Lib.hid (Q1.out.on hb)
  clear hb x0 x1 y0 y1
  obtain ⟨x0, x1⟩ := Q0.out.two
  obtain ⟨y0, y1⟩ := Q1.out.two
  go_wp2_with fail
  refine (same_eq N0.out.2 N1.out.2 Y0.out Y1.out (by have := N0.out; have := HS.out; omega)).mono ?_
  rintro e w6 ⟨rfl, hb⟩
  replace HB := Lib.hid (bstep HB.out hb)
  replace C0 := Lib.hid (C0.out.on hb)
  replace D0 := Lib.hid (D0.out.on hb)
  replace X0 := Lib.hid (X0.out.on hb)
  replace Y0 := Lib.hid (Y0.out.on hb)
  replace P0 := Lib.hid (P0.out.on hb)
  replace Q0 := Lib.hid (Q0.out.on hb)
  replace X1 := Lib.hid (X1.out.on hb)
  replace Y1 := Lib.hid (Y1.out.on hb)
  replace P1 := Lib.hid (P1.out.on hb)
  replace Q1 := Lib.hid (Q1.out.on hb)
  clear hb x0 x1 y0 y1
  go_wp2_with fail
  refine (KQ.out _).mono ?_
  rintro e wq ⟨rfl, hb⟩
  have HF := Lib.hid (bstep HB.out hb)
  clear hb
  go_wp2_with fail
  go_ret
  exact ⟨rfl, HF.out⟩
end Go.Proofs.Ytagjimdplmimoaa.Chest
