/- Walk of WireKeeps. -/
import Derived.Test.YthcbkjdjkmnbiaaWireL
namespace Go.Proofs.Ythcbkjdjkmnbiaa.Wire
open Go.ChangeShapes Go.WideShapes Go.RowKit
set_option linter.unusedVariables false
set_option maxRecDepth 100000

theorem head_in {w : World} {A : Option Addr} {N c : Nat} {l t : List UInt8} (h : InY w (.slice A N c) (l ++ t)) {M : Nat} (hM : M = l.length) : InY w (.slice A M c) l := by
  obtain ⟨A', c', e, h1, h2, h3⟩ := h
  cases e
  subst hM
  have := h3.take l.length
  rw [List.take_left] at this
  rw [List.length_append] at h1
  exact ⟨A, c, rfl, by omega, h2, this⟩
set_option maxHeartbeats 3200000 in
theorem walk_WireKeeps (w : World) (A : Option Addr) (n c : Nat) (zs : List Int) (h : InInts .u8 w A n c zs) (m : Int) (hm : (Lit.int .i64 m).wf = true) (s : ByteArray) (hs : s.size ≤ maxLen)
    (A' : Option Addr) (n' c' : Nat) (xs : List Int) (h' : InInts .i64 w A' n' c' xs) :
    Calls Try.prog 9 #[.slice A n c, .int .i64 m, .string s, .slice A' n' c'] w fun e w' => e = .returned (.bool true) ∧ Below w.heap.size w w' := by
  obtain ⟨l, rfl, hy⟩ := in_y h
  obtain ⟨rfl, hi, ha⟩ := in_i h'
  have hls := hy.small
  have hss := max_small hs
  have hxs : xs.length ≤ 9223372036854775807 := by
    obtain ⟨_, _, _, h1, h2, _⟩ := hi
    unfold maxLen at h2; omega
  have HYY := Lib.hid hy
  obtain ⟨_, _, e0, _, _, hits⟩ := hi
  cases e0
  obtain ⟨_, _, e0, _, _, hbyt⟩ := hy
  cases e0
  have HY := Lib.hid hbyt
  have HI := Lib.hid hits
  have HA := Lib.hid ha
  have HM := Lib.hid (wf_isI hm)
  clear h h' hits hbyt ha hm hs
  rcases Nat.lt_or_ge 300 l.length with hb | hb
  · have hb1 : (300 : Int) < (l.length : Int) := by omega
    go_enter Try.func9, Try.ntmps9
    go_wp2_with fail
    refine (awake_true w).mono ?_
    rintro e0 wz ⟨rfl, hbz⟩
    have HBZ := Lib.hid hbz
    clear hbz
    go_wp2_with fail
    go_ret
    exact ⟨rfl, HBZ.out⟩
  · have hb1 : decide ((300 : Int) < (l.length : Int)) = false := decide_eq_false (by omega)
    rcases Nat.lt_or_ge 100 s.size with hc | hc
    · have hc1 : (100 : Int) < (s.size : Int) := by omega
      go_enter Try.func9, Try.ntmps9
      go_wp2_with fail
      refine (awake_true w).mono ?_
      rintro e0 wz ⟨rfl, hbz⟩
      have HBZ := Lib.hid hbz
      clear hbz
      go_wp2_with fail
      go_ret
      exact ⟨rfl, HBZ.out⟩
    · have hc1 : decide ((100 : Int) < (s.size : Int)) = false := decide_eq_false (by omega)
      rcases Nat.lt_or_ge 100 xs.length with hd | hd
      · have hd1 : (100 : Int) < (xs.length : Int) := by omega
        go_enter Try.func9, Try.ntmps9
        go_wp2_with fail
        refine (awake_true w).mono ?_
        rintro e0 wz ⟨rfl, hbz⟩
        have HBZ := Lib.hid hbz
        clear hbz
        go_wp2_with fail
        go_ret
        exact ⟨rfl, HBZ.out⟩
      · have hd1 : decide ((100 : Int) < (xs.length : Int)) = false := decide_eq_false (by omega)
        have L1 := Lib.hid (show l.length ≤ 50000 by omega)
        have L1' := Lib.hid (show l.length ≤ 100000 by omega)
        have L2 := Lib.hid (show s.size ≤ 100000 by omega)
        have L3 := Lib.hid (show xs.length ≤ 4000 by omega)
        obtain ⟨N, hN⟩ : ∃ N, N = l.length := ⟨_, rfl⟩
        have HN := Lib.hid hN
        rw [← hN] at hb1 hls L1 L1' ⊢
        have HN3 := Lib.hid (show N ≤ 300 by omega)
        clear hb hc hd hN
        go_enter Try.func9, Try.ntmps9
        go_wp2_with (at_builtin; refine append_own rfl _ _ rfl w.heap.size (.slice (some ⟨w.heap.size, 0, none⟩) 0 0) [] rfl (OwnY.empty w) A c l N HN.out rfl (HY.out.on (bstep (Below.refl _ _) (below_alloc _ _))) (by have := L1.out; rw [HN.out] at this; simp; omega) (below_alloc _ _).size ?_; intro va1 wa1 howna hba; refine Hid.out ?_)
        refine Lib.hid ?_
        have HOA := Lib.hid howna
        have HBA := Lib.hid ((below_alloc w (.cells #[] 5)).trans hba)
        clear howna hba
        go_wp2_with (at_builtin; refine append_own rfl _ _ rfl w.heap.size va1 ([] ++ l) rfl (HOA.out.on (below_alloc _ _)) (some ⟨wa1.heap.size, 0, none⟩) 4 [1, 2, 3, 4] 4 rfl rfl (byt_lit wa1 _ [1, 2, 3, 4]) (by have := L1.out; rw [HN.out] at this; simp; omega) (Nat.le_trans HBA.out.size (below_alloc _ _).size) ?_; intro vr1 wr1 hownb hbb; refine Hid.out ?_)
        refine Lib.hid ?_
        have HR1 := Lib.hid hownb.inY
        have HBX := Lib.hid (HBA.out.trans (((below_alloc wa1 (.cells #[.int .u8 1, .int .u8 2, .int .u8 3, .int .u8 4] 5)).mono HBA.out.size).trans hbb))
        have HB1 := Lib.hid (bstep (Below.refl _ _) HBX.out)
        clear hownb hbb HOA HBA
        obtain ⟨NR, hNR⟩ : ∃ NR, NR = (([] ++ l) ++ [1, 2, 3, 4] : List UInt8).length := ⟨_, rfl⟩
        obtain ⟨Ar, cr, rfl, hcr, hbr⟩ := HR1.out.named hNR
        have hNR2 : NR = N + 4 := by rw [hNR, HN.out]; simp
        have HRM : Hid (InY wr1 (.slice Ar N cr) l) := head_in (l := l) (t := [1, 2, 3, 4]) HR1.out HN.out
        have hsl := fun W => slice_to Ar NR cr N (by omega) W
        have P1 := Lib.hid (fun W hW => wire_PutInt _ l m W HM.out (HRM.out.on hW) (by rw [← HN.out]; exact L1'.out))
        have P2 := Lib.hid (fun W hW => wire_PutText _ l s W (HRM.out.on hW) (by rw [← HN.out]; exact L1'.out) L2.out)
        have P3 := Lib.hid (fun W hW => wire_PutList _ l A' c' xs W (HRM.out.on hW) (by rw [← HN.out]; exact L1.out) (HI.out.on (bstep HB1.out hW)) HA.out L3.out)
        clear hNR hcr hbr hNR2 HBX
        go_upto_region 4 with fail
        go_cut [10, 11, 12] from 32 to 49 (fun x y z wc => InY wc x (l ++ encI m) ∧ InY wc y (l ++ encT (ls s)) ∧ InY wc z (l ++ encL xs) ∧ Below wr1.heap.size wr1 wc)
        case first =>
          (go_region_held_law (fun W' => True) (trivial) (first | (go_at_call 12; (with_reducible refine (P1.out _ (Below.refl _ _).drew).mono ?_); intro e1 wp1 hq1; obtain ⟨vp1, rfl, hvp1, hbp1⟩ := hq1.open_) | (go_at_call 14; (with_reducible refine (P2.out _ (bstep (Below.refl _ _).drew hbp1)).mono ?_); intro e2 wp2 hq2; obtain ⟨vp2, rfl, hvp2, hbp2⟩ := hq2.open_) | (go_at_call 16; (with_reducible refine (P3.out _ (bstep (bstep (Below.refl _ _).drew hbp1) hbp2)).mono ?_); intro e3 wp3 hq3; obtain ⟨vp3, rfl, hvp3, hbp3⟩ := hq3.open_)))
          all_goals
            rename_i hheld
            clear hheld
            go_wp2_with fail
            go_meet
            case rel => exact ⟨(hvp1.on hbp2).on hbp3, hvp2.on hbp3, hvp3, bstep (bstep (bstep (Below.refl _ _).drew hbp1) hbp2) hbp3⟩
        case rest =>
          obtain ⟨hx, hy, hz, hbel⟩ := hcut
          skip
          have HB2 := Lib.hid (bstep HB1.out hbel)
          have HRC := Lib.hid (HR1.out.on hbel)
          obtain ⟨N1, hN1⟩ : ∃ N1, N1 = (l ++ encI m).length := ⟨_, rfl⟩
          obtain ⟨N2, hN2⟩ : ∃ N2, N2 = (l ++ encT (ls s)).length := ⟨_, rfl⟩
          obtain ⟨N3, hN3⟩ : ∃ N3, N3 = (l ++ encL xs).length := ⟨_, rfl⟩
          have HX := Lib.hid hx
          obtain ⟨A1, c1, rfl, hc1x, _⟩ := hx.named hN1
          obtain ⟨A2, c2, rfl, _, _⟩ := hy.named hN2
          obtain ⟨A3, c3, rfl, _, _⟩ := hz.named hN3
          have g1 : N < N1 := by have := encI_pos m; rw [hN1, HN.out, List.length_append]; omega
          have g2 : N < N2 := by have := encT_pos (ls s); rw [hN2, HN.out, List.length_append]; omega
          have g3 : N < N3 := by have := encL_pos xs; rw [hN3, HN.out, List.length_append]; omega
          have hslx := fun W => slice_to A1 N1 c1 N (by omega) W
          have HXM : Hid (InY wc (.slice A1 N c1) l) := head_in (l := l) (t := encI m) HX.out HN.out
          clear hbel hx hy hz hN1 hN2 hN3 hc1x HR1 hsl
          go_wp2_with (at_builtin; refine append_own rfl _ _ rfl wc.heap.size (.slice (some ⟨wc.heap.size, 0, none⟩) 0 0) [] rfl (OwnY.empty wc) A c l N HN.out rfl (HY.out.on (bstep HB2.out (below_alloc _ _))) (by have := L1.out; rw [HN.out] at this; simp; omega) (below_alloc _ _).size ?_; intro va9 wa9 howna hba; refine Hid.out ?_)
          refine Lib.hid ?_
          have HOA := Lib.hid howna
          have HBA := Lib.hid ((below_alloc wc (.cells #[] 5)).trans hba)
          clear howna hba
          go_wp2_with (at_builtin; refine append_own rfl _ _ rfl wc.heap.size va9 ([] ++ l) rfl (HOA.out.on (below_alloc _ _)) (some ⟨wa9.heap.size, 0, none⟩) 4 [1, 2, 3, 4] 4 rfl rfl (byt_lit wa9 _ [1, 2, 3, 4]) (by have := L1.out; rw [HN.out] at this; simp; omega) (Nat.le_trans HBA.out.size (below_alloc _ _).size) ?_; intro vr9 wr9 hownb hbb; refine Hid.out ?_)
          refine Lib.hid ?_
          have HR9 := Lib.hid hownb.inY
          have HBX := Lib.hid (HBA.out.trans (((below_alloc wa9 (.cells #[.int .u8 1, .int .u8 2, .int .u8 3, .int .u8 4] 5)).mono HBA.out.size).trans hbb))
          have HB9 := Lib.hid (bstep HB2.out HBX.out)
          clear hownb hbb HOA HBA
          go_wp2_with fail
          refine (same_is _ vr9 wr9 (HRC.out.on HBX.out) HR9.out).mono ?_
          rintro e0 w0 ⟨rfl, rfl⟩
          go_wp2_with fail
          refine (same_is _ _ wr9 (HXM.out.on HBX.out) (by have := HYY.out.on HB9.out; rw [← HN.out] at this; exact this)).mono ?_
          rintro e0 w0 ⟨rfl, rfl⟩
          go_wp2_with fail
          refine (awake_true wr9).mono ?_
          rintro e0 wz ⟨rfl, hbz⟩
          have HBZ := Lib.hid (bstep HB9.out hbz)
          clear hbz
          go_wp2_with fail
          go_ret
          exact ⟨rfl, HBZ.out⟩
#print axioms walk_WireKeeps
end Go.Proofs.Ythcbkjdjkmnbiaa.Wire
