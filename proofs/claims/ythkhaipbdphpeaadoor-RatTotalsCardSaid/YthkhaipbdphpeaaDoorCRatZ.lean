/- The contract of Sum of the reference. -/
import Derived.Test.YthkhaipbdphpeaaDoorPk9
namespace Go.Proofs.YthkhaipbdphpeaaDoor
open Go.ChangeShapes Go.WideShapes Go.RowKit
set_option linter.unusedVariables false
set_option maxRecDepth 100000

theorem below_of_drew {w w' : World} (h : Below w.drew.heap.size w.drew w') : Below w.heap.size w w' := (Below.refl w.heap.size w).drew.trans h

set_option maxHeartbeats 3200000 in
theorem ref_Sum3 (L : List Trip) (A : Option Addr) (c : Nat) (w : World) (ha : Rats w A L) (hm : L.length ≤ 9223372036854775807) :
    Calls Tryd.prog 38 #[.slice A L.length c] w (RRes w (sumE L) (sumV L)) := by
  have HA := Lib.hid ha
  have HC := Lib.hid (Cel.new w (.bool false) (.slice none 0 0) (.slice none 0 0) 25)
  clear ha
  by_cases hf : 4096 < L.length
  · have hf' : (4096 : Int) < (L.length : Int) := by omega
    have HF := Lib.hid (sumE_full hf)
    clear hf
    go_enter Tryd.func38, Tryd.ntmps38
    go_wp2_with fail
    refine bodyPost_ret (v := .tuple #[.agg #[.bool false, .slice none 0 0, .slice none 0 0], .int .i64 8]) (by simp [results, Tryd.results38, go_sem]) rfl ?_
    rw [HF.out]
    exact ⟨_, rfl, OutR.no (by decide), below_alloc _ _⟩
  · have hf' : decide ((4096 : Int) < (L.length : Int)) = false := decide_eq_false (by omega)
    have hf2 : decide (4096 < L.length) = false := decide_eq_false (by omega)
    have HF := Lib.hid hf
    clear hf
    go_enter Tryd.func38, Tryd.ntmps38
    go_wp2_with fail
    obtain ⟨w0, hw0⟩ : ∃ w0, w0 = w.alloc (.cells #[.bool false, .slice none 0 0, .slice none 0 0] 25) := ⟨_, rfl⟩
    rw [← hw0] at HC ⊢
    have hz0 : w.heap.size + 1 ≤ w0.heap.size := by rw [hw0]; simp
    have HB0 : Hid (Below w.heap.size w w0) := by rw [hw0]; exact below_alloc _ _
    clear hw0
    go_loopw [4] (fun i wr => ∃ k : Nat, k ≤ L.length ∧ i = .int .i64 k ∧ (∀ j t, j < k → L[j]? = some t → vT t = true) ∧ Below w0.heap.size w0 wr) (fun i _ => L.length - (intOf i).toNat)
    case atStart => exact ⟨0, Nat.zero_le _, rfl, fun j t h => absurd h (by omega), Below.refl _ _⟩
    case round =>
      obtain ⟨k, hk, rfl, hv, hbel⟩ := hrel
      have HV := Lib.hid hv
      have HB := Lib.hid hbel
      have hzr : w0.heap.size ≤ wr.heap.size := hbel.size
      have HBW : Hid (Below w.heap.size w wr) := HB0.out.trans (hbel.mono (by omega))
      have HCR := Lib.hid (HC.out.on hbel)
      clear hv hbel
      rcases Nat.lt_or_ge k L.length with hlt | hge
      · obtain ⟨t, ht⟩ : ∃ t, L[k]? = some t := ⟨_, List.getElem?_eq_getElem hlt⟩
        obtain ⟨b, off, A1, c1, A2, c2, rfl, hbl, ⟨k0, k1, k2⟩, i1, i2⟩ := HA.out.on HBW.out k t ht
        have HT := Lib.hid ht
        have HI := Lib.hid (show InR wr (.agg #[.bool t.1, .slice A1 t.2.1.length c1, .slice A2 t.2.2.length c2]) t.1 t.2.1 t.2.2 from ⟨_, _, rfl, i1, i2⟩)
        clear ht i1 i2
        go_wp2_with fail
        refine (ref_Valid3 _ t.1 t.2.1 t.2.2 _ HI.out).mono ?_
        rintro e w1 ⟨rfl, hb1⟩
        have hbw1 := hb1
        have HB1 := Lib.hid hbw1
        have hz1 : wr.heap.size ≤ w1.heap.size := hbw1.size
        have HC1 := Lib.hid (HCR.out.on hbw1)
        clear hb1 hbw1
        cases hvt : valR t.1 t.2.1 t.2.2 with
        | false =>
          have HE := Lib.hid (sumE_form HF.out (all_false HT.out hvt))
          obtain ⟨⟨r0, r1, r2⟩, s0, s1, s2⟩ := HC1.out
          clear hvt k0 k1 k2
          go_wp2_with fail
          obtain ⟨⟨z0, z1, z2⟩, -⟩ := HC1.out.put3 (.bool false) (.slice none 0 0) (.slice none 0 0)
          simp only [put3] at z0 z1 z2
          refine bodyPost_ret (v := .tuple #[.agg #[.bool false, .slice none 0 0, .slice none 0 0], .int .i64 3]) (by simp [results, Tryd.results38, go_sem, z0, z1, z2]) rfl ?_
          rw [HE.out]
          exact ⟨_, rfl, OutR.no (by decide), below_put3 (HBW.out.trans (HB1.out.mono (by omega))) (g := w.heap.size) (by omega) _ _ _⟩
        | true =>
          have HVT := Lib.hid hvt
          clear hvt k0 k1 k2
          go_wp2_with fail
          go_roundw
          case rel =>
            refine ⟨k + 1, by omega, by go_num, ?_, bstep HB.out HB1.out⟩
            intro j u hj hu
            rcases Nat.lt_or_eq_of_le (Nat.le_of_lt_succ hj) with h | h
            · exact HV.out j u h hu
            · subst h
              have e := HT.out
              rw [hu] at e; cases e; exact HVT.out
          case measure => simp [intOf]; omega
      · obtain rfl : k = L.length := by omega
        have HALL := Lib.hid (all_true (L := L) fun j u hu => HV.out j u (by rcases Nat.lt_or_ge j L.length with h | h; exact h; rw [List.getElem?_eq_none h] at hu; cases hu) hu)
        go_wp2_with fail
        refine (ref_Of3 0 _ (by decide) (by decide)).mono ?_
        rw [mkE_zero, mkV_zero]
        rintro e w1 h1
        obtain ⟨b1, A1, n1, d1, A2, n2, d2, rfl, ho, hb1⟩ := h1.open_
        have HC1 := Lib.hid (HCR.out.on hb1)
        have hz1 : wr.heap.size ≤ w1.heap.size := hb1.size
        have HB1 : Hid (Below w.heap.size w w1) := HBW.out.trans (hb1.mono (by omega))
        have HO := Lib.hid ho
        clear h1 ho hb1
        go_wp2_with fail
        obtain ⟨w3, hw3⟩ : ∃ w3, w3 = w1.alloc (.cells #[.bool b1, .slice A1 n1 d1, .slice A2 n2 d2] 25) := ⟨_, rfl⟩
        rw [← hw3]
        have HI3 : Hid (SumInv w w3 w.heap.size w1.heap.size 0) := by
          rw [hw3]
          exact ⟨⟨HB1.out.alloc (by omega) _, by omega, by omega⟩, HC1.out.alloc _, b1, A1, n1, d1, A2, n2, d2, Cel.new _ _ _ _ _, (OutR.zero rfl HO.out).on (below_alloc _ _)⟩
        obtain ⟨gs, hgs⟩ : ∃ gs, gs = w1.heap.size := ⟨_, rfl⟩
        rw [← hgs] at HI3 ⊢
        clear hw3 hgs hz1 hzr
        obtain ⟨wo, rfl⟩ : ∃ wo : World, wo = wr := ⟨_, rfl⟩
        go_loopw [7] (fun i wr => ∃ (k : Nat) (r : Rat), k ≤ L.length ∧ i = .int .i64 k ∧ (fitR r = true ∧ tot ((L.drop k).map rT) r = tot (L.map rT) 0) ∧ SumInv w wr w.heap.size gs r) (fun i _ => L.length - (intOf i).toNat)
        case atStart => exact ⟨0, 0, Nat.zero_le _, rfl, ⟨fit_zero, rfl⟩, HI3.out⟩
        case round =>
          obtain ⟨k, r, hk, rfl, ⟨hfr, htot⟩, ⟨hbx, hg1, hg2⟩, hcx, b2, A3, n3, d3, A4, n4, d4, hcs, his⟩ := hrel
          have HFR := Lib.hid hfr
          have HTOT := Lib.hid htot
          have HBX := Lib.hid hbx
          have HCX := Lib.hid hcx
          have HCS := Lib.hid hcs
          have HIS := Lib.hid his
          have hgl : gs < wr.heap.size := hcs.lt
          have hwl : w.heap.size < wr.heap.size := hcx.lt
          obtain ⟨⟨s0, s1, s2⟩, -⟩ := hcs
          clear hfr htot hbx hcx his
          rcases Nat.lt_or_ge k L.length with hlt | hge
          · obtain ⟨t, ht⟩ : ∃ t, L[k]? = some t := ⟨_, List.getElem?_eq_getElem hlt⟩
            obtain ⟨b, off, A5, c5, A6, c6, rfl, hbl, ⟨k0, k1, k2⟩, i1, i2⟩ := HA.out.on HBX.out k t ht
            have HVT := Lib.hid (all_at HALL.out ht)
            have HST := Lib.hid (tot_step (s := r) ht)
            have HI := Lib.hid (show InR wr (.agg #[.bool t.1, .slice A5 t.2.1.length c5, .slice A6 t.2.2.length c6]) t.1 t.2.1 t.2.2 from ⟨_, _, rfl, i1, i2⟩)
            have KL := Lib.hid (HA.out.on HBX.out.drew)
            have KS := Lib.hid HCS.out.drew
            have KX := Lib.hid HCX.out.drew
            have HBD := Lib.hid HBX.out.drew
            have HISD := Lib.hid (show IsR wr.drew _ r from HIS.out)
            have HID := Lib.hid (trip_is (w := wr.drew) HVT.out HI.out)
            have KE : Hid (∀ W, Below wr.heap.size wr W → W.cell? ⟨b, off + k * 3, none⟩ = some (.bool t.1) ∧ W.cell? ⟨b, off + k * 3 + 1, none⟩ = some (.slice A5 t.2.1.length c5) ∧ W.cell? ⟨b, off + k * 3 + 2, none⟩ = some (.slice A6 t.2.2.length c6)) :=
              fun W hW => ⟨(hW.cell (p := ⟨b, off + k * 3, none⟩) hbl).trans k0, (hW.cell (p := ⟨b, off + k * 3 + 1, none⟩) hbl).trans k1, (hW.cell (p := ⟨b, off + k * 3 + 2, none⟩) hbl).trans k2⟩
            have HIA : Hid (∀ o, IsR (wr.alloc o).drew (.agg #[.bool b2, .slice A3 n3 d3, .slice A4 n4 d4]) r) := fun o => HIS.out.on (below_alloc wr o).drew
            have HDA : Hid (∀ o, IsR (wr.alloc o).drew (.agg #[.bool t.1, .slice A5 t.2.1.length c5, .slice A6 t.2.2.length c6]) (rT t)) := fun o => trip_is (w := (wr.alloc o).drew) HVT.out (HI.out.on (below_alloc wr o).drew)
            have KA : Hid (∀ o, (wr.alloc o).drew.cell? ⟨b, off + k * 3, none⟩ = some (.bool t.1) ∧ (wr.alloc o).drew.cell? ⟨b, off + k * 3 + 1, none⟩ = some (.slice A5 t.2.1.length c5) ∧ (wr.alloc o).drew.cell? ⟨b, off + k * 3 + 2, none⟩ = some (.slice A6 t.2.2.length c6)) := fun o => KE.out _ (below_alloc wr o).drew
            have KA2 : Hid (∀ o W, Below (wr.alloc o).drew.heap.size (wr.alloc o).drew W → W.cell? ⟨b, off + k * 3, none⟩ = some (.bool t.1) ∧ W.cell? ⟨b, off + k * 3 + 1, none⟩ = some (.slice A5 t.2.1.length c5) ∧ W.cell? ⟨b, off + k * 3 + 2, none⟩ = some (.slice A6 t.2.2.length c6)) := fun o W hW => KE.out _ ((below_alloc wr o).drew.trans (hW.mono (by simp)))
            have KA3 : Hid (∀ o W, Below (wr.alloc o).drew.heap.size (wr.alloc o).drew W → ∀ x0 x1 x2, (put3 W wr.heap.size x0 x1 x2).cell? ⟨b, off + k * 3, none⟩ = some (.bool t.1) ∧ (put3 W wr.heap.size x0 x1 x2).cell? ⟨b, off + k * 3 + 1, none⟩ = some (.slice A5 t.2.1.length c5) ∧ (put3 W wr.heap.size x0 x1 x2).cell? ⟨b, off + k * 3 + 2, none⟩ = some (.slice A6 t.2.2.length c6)) := fun o W hW x0 x1 x2 => KE.out _ (below_put3 ((below_alloc wr o).drew.trans (hW.mono (by simp))) (Nat.le_refl _) _ _ _)
            have hzd : wr.heap.size ≤ wr.drew.heap.size := Nat.le_refl _
            clear ht i1 i2
            go_wp2_with fail
            go_region_held3 (fun W' => (W'.cell? ⟨gs, 0, none⟩ = some (.bool b2) ∧ W'.cell? ⟨gs, 1, none⟩ = some (.slice A3 n3 d3) ∧ W'.cell? ⟨gs, 2, none⟩ = some (.slice A4 n4 d4)) ∧ (W'.cell? ⟨b, off + k * 3, none⟩ = some (.bool t.1) ∧ W'.cell? ⟨b, off + k * 3 + 1, none⟩ = some (.slice A5 t.2.1.length c5) ∧ W'.cell? ⟨b, off + k * 3 + 2, none⟩ = some (.slice A6 t.2.2.length c6)))
              (first | exact ⟨⟨s0, s1, s2⟩, k0, k1, k2⟩ | exact ⟨(KS.out.on hb4).1, KE.out _ (below_of_drew hb4)⟩ | exact ⟨((KS.out.on hb4).alloc _).1, KE.out _ (balloc (below_of_drew hb4) _)⟩ | exact ⟨(HCS.out.alloc _).drew.1, KA.out _⟩ | exact ⟨((HCS.out.alloc _).drew.on hb4).1, KA2.out _ _ hb4⟩ | exact ⟨(((HCS.out.alloc _).drew.on hb4).put3o (g' := wr.heap.size) (by omega) _ _ _).1, KA3.out _ _ hb4 _ _ _⟩)
              (first | (go_at_call 28; (with_reducible refine (ref_AddF r (rT t) HFR.out (trip_form HVT.out).1 _ _ _ HISD.out HID.out).mono ?_); rintro e w4 h4; obtain ⟨b5, A7, n7, d7, A8, n8, d8, rfl, ho4, hb4⟩ := h4.open_) | (go_at_call 28; (with_reducible refine (ref_AddF r (rT t) HFR.out (trip_form HVT.out).1 _ _ _ (HIA.out _) (HDA.out _)).mono ?_); rintro e w4 h4; obtain ⟨b5, A7, n7, d7, A8, n8, d8, rfl, ho4, hb4⟩ := h4.open_; obtain ⟨⟨y0, y1, y2⟩, x0, x1, x2⟩ := (Cel.new wr (.bool false) (.slice none 0 0) (.slice none 0 0) 25).drew.on hb4))
            · have hbz0 : Below wr.heap.size wr (w4.alloc (.cells #[.bool b5, .slice A7 n7 d7, .slice A8 n8 d8] 25)) := balloc (below_of_drew hb4) _
              have ct0 : Cel (w4.alloc (.cells #[.bool b5, .slice A7 n7 d7, .slice A8 n8 d8] 25)) w4.heap.size (.bool b5) (.slice A7 n7 d7) (.slice A8 n8 d8) := Cel.new _ _ _ _ _
              have ot0 : OutR (w4.alloc (.cells #[.bool b5, .slice A7 n7 d7, .slice A8 n8 d8] 25)) (.agg #[.bool b5, .slice A7 n7 d7, .slice A8 n8 d8]) (okE (sumOk r (rT t))) (r + rT t) := ho4.on (below_alloc _ _)
              have hgt0 : wr.heap.size ≤ w4.heap.size := (below_of_drew hb4).size
              obtain ⟨gt, hgt⟩ : ∃ gt, gt = w4.heap.size := ⟨_, rfl⟩
              obtain ⟨wz, hwz⟩ : ∃ wz, wz = w4.alloc (.cells #[.bool b5, .slice A7 n7 d7, .slice A8 n8 d8] 25) := ⟨_, rfl⟩
              rw [← hwz] at hbz0 ct0 ot0 ⊢
              rw [← hgt] at ct0 hgt0 ⊢
              have HBZ := Lib.hid hbz0
              have CT := Lib.hid ct0
              have OT := Lib.hid ot0
              have HCXZ := Lib.hid (HCX.out.on hbz0)
              have HCSZ := Lib.hid (HCS.out.on hbz0)
              clear hbz0 ct0 ot0 hwz hgt h4 ho4 hb4 k0 k1 k2 s0 s1 s2
              cases hok : sumOk r (rT t) with
              | false =>
                have HE := Lib.hid (sumE_over HF.out HALL.out (by rw [← HTOT.out, HST.out, hok]; rfl))
                obtain ⟨⟨r0, r1, r2⟩, f0, f1, f2⟩ := HCXZ.out
                clear hok
                unfold okE
                go_wp2_with fail
                obtain ⟨⟨z0, z1, z2⟩, -⟩ := HCXZ.out.put3 (.bool false) (.slice none 0 0) (.slice none 0 0)
                simp only [put3] at z0 z1 z2
                refine bodyPost_ret (v := .tuple #[.agg #[.bool false, .slice none 0 0, .slice none 0 0], .int .i64 2]) (by simp [results, Tryd.results38, go_sem, z0, z1, z2]) rfl ?_
                rw [HE.out]
                exact ⟨_, rfl, OutR.no (by decide), below_put3 (HBX.out.trans (HBZ.out.mono (by omega))) (Nat.le_refl _) _ _ _⟩
              | true =>
                have HOK := Lib.hid hok
                rw [hok] at OT
                obtain ⟨⟨q0, q1, q2⟩, -⟩ := CT.out
                obtain ⟨⟨r0, r1, r2⟩, f0, f1, f2⟩ := HCSZ.out
                clear hok
                unfold okE
                go_wp2_with fail
                go_roundw
                case rel =>
                  refine ⟨k + 1, r + rT t, by omega, by go_num, ⟨fit_sum HFR.out (trip_form HVT.out).1 HOK.out, by rw [← HTOT.out, HST.out, HOK.out]; rfl⟩, ⟨below_put3 (HBX.out.trans (HBZ.out.mono (by omega))) hg1 _ _ _, hg1, hg2⟩, HCXZ.out.put3o (g' := gs) (fun h => hg2 h.symm) _ _ _, b5, A7, n7, d7, A8, n8, d8, HCSZ.out.put3 _ _ _, ?_⟩
                  exact InR.put3 (OutR.zero rfl OT.out) HCSZ.out _ _ _
                case measure => simp [intOf]; omega
            · have hb5 : Below wr.heap.size wr w4 := (below_alloc wr (.cells #[.bool false, .slice none 0 0, .slice none 0 0] 25)).drew.trans (hb4.mono (by simp))
              have hcn : Cel w4 wr.heap.size (.bool false) (.slice none 0 0) (.slice none 0 0) := ⟨⟨y0, y1, y2⟩, x0, x1, x2⟩
              have hbz0 : Below wr.heap.size wr (put3 w4 wr.heap.size (.bool b5) (.slice A7 n7 d7) (.slice A8 n8 d8)) := below_put3 hb5 (Nat.le_refl _) _ _ _
              have ct0 := hcn.put3 (.bool b5) (.slice A7 n7 d7) (.slice A8 n8 d8)
              have ot0 : OutR (put3 w4 wr.heap.size (.bool b5) (.slice A7 n7 d7) (.slice A8 n8 d8)) (.agg #[.bool b5, .slice A7 n7 d7, .slice A8 n8 d8]) (okE (sumOk r (rT t))) (r + rT t) := ho4.put3 hcn _ _ _
              obtain ⟨gt, hgt⟩ : ∃ gt, gt = wr.heap.size := ⟨_, rfl⟩
              have hgt0 : wr.heap.size ≤ gt := by omega
              obtain ⟨wz, hwz⟩ : ∃ wz, wz = put3 w4 wr.heap.size (.bool b5) (.slice A7 n7 d7) (.slice A8 n8 d8) := ⟨_, rfl⟩
              rw [← hwz] at hbz0 ct0 ot0
              unfold put3 at hwz
              rw [← hwz]
              rw [← hgt] at ct0 ⊢
              clear y0 y1 y2 x0 x1 x2 hb5 hcn
              have HBZ := Lib.hid hbz0
              have CT := Lib.hid ct0
              have OT := Lib.hid ot0
              have HCXZ := Lib.hid (HCX.out.on hbz0)
              have HCSZ := Lib.hid (HCS.out.on hbz0)
              clear hbz0 ct0 ot0 hwz hgt h4 ho4 hb4 k0 k1 k2 s0 s1 s2
              cases hok : sumOk r (rT t) with
              | false =>
                have HE := Lib.hid (sumE_over HF.out HALL.out (by rw [← HTOT.out, HST.out, hok]; rfl))
                obtain ⟨⟨r0, r1, r2⟩, f0, f1, f2⟩ := HCXZ.out
                clear hok
                unfold okE
                go_wp2_with fail
                obtain ⟨⟨z0, z1, z2⟩, -⟩ := HCXZ.out.put3 (.bool false) (.slice none 0 0) (.slice none 0 0)
                simp only [put3] at z0 z1 z2
                refine bodyPost_ret (v := .tuple #[.agg #[.bool false, .slice none 0 0, .slice none 0 0], .int .i64 2]) (by simp [results, Tryd.results38, go_sem, z0, z1, z2]) rfl ?_
                rw [HE.out]
                exact ⟨_, rfl, OutR.no (by decide), below_put3 (HBX.out.trans (HBZ.out.mono (by omega))) (Nat.le_refl _) _ _ _⟩
              | true =>
                have HOK := Lib.hid hok
                rw [hok] at OT
                obtain ⟨⟨q0, q1, q2⟩, -⟩ := CT.out
                obtain ⟨⟨r0, r1, r2⟩, f0, f1, f2⟩ := HCSZ.out
                clear hok
                unfold okE
                go_wp2_with fail
                go_roundw
                case rel =>
                  refine ⟨k + 1, r + rT t, by omega, by go_num, ⟨fit_sum HFR.out (trip_form HVT.out).1 HOK.out, by rw [← HTOT.out, HST.out, HOK.out]; rfl⟩, ⟨below_put3 (HBX.out.trans (HBZ.out.mono (by omega))) hg1 _ _ _, hg1, hg2⟩, HCXZ.out.put3o (g' := gs) (fun h => hg2 h.symm) _ _ _, b5, A7, n7, d7, A8, n8, d8, HCSZ.out.put3 _ _ _, ?_⟩
                  exact InR.put3 (OutR.zero rfl OT.out) HCSZ.out _ _ _
                case measure => simp [intOf]; omega
          · obtain rfl : k = L.length := by omega
            have HE := Lib.hid (sumE_ok HF.out HALL.out (by rw [← HTOT.out, tot_end]))
            obtain ⟨⟨r0, r1, r2⟩, f0, f1, f2⟩ := HCX.out
            go_wp2_with fail
            obtain ⟨⟨z0, z1, z2⟩, -⟩ := HCX.out.put3 (.bool b2) (.slice A3 n3 d3) (.slice A4 n4 d4)
            simp only [put3] at z0 z1 z2
            refine bodyPost_ret (v := .tuple #[.agg #[.bool b2, .slice A3 n3 d3, .slice A4 n4 d4], .int .i64 0]) (by simp [results, Tryd.results38, go_sem, z0, z1, z2]) rfl ?_
            rw [HE.out.1, HE.out.2]
            exact ⟨_, rfl, OutR.ok (InR.put3 HIS.out HCX.out _ _ _), below_put3 HBX.out (Nat.le_refl _) _ _ _⟩
#print axioms ref_Sum3
end Go.Proofs.YthkhaipbdphpeaaDoor
