/- Split of the reference. -/
import Derived.Test.YtdolhanniiejfaaShareH
namespace Go.Proofs.Ytdolhanniiejfaa.Share
open Go.ChangeShapes Go.WideShapes Go.RowKit Go.Lib Go.Proofs.Ytdolhanniiejfaa.Mem
set_option linter.unusedVariables false
set_option maxRecDepth 100000

theorem lefts_lo (r : Nat → Nat) (n k i : Nat) : -1 ≤ lefts r n k i := by
  unfold lefts; split <;> omega
theorem partsL_zero {t : Int} {ws : List Int} (h : Share.tw (wf ws) ws.length = 0) : partsL t ws = lst (fun _ => 0) ws.length := by
  unfold partsL lst
  exact List.map_congr_left fun i _ => by unfold part; rw [if_pos h]; rfl
theorem bndsL_zero {t : Int} {ws : List Int} (h : Share.tw (wf ws) ws.length = 0) : bndsL t ws = lst (fun _ => 0) ws.length := by
  unfold bndsL lst
  exact List.map_congr_left fun i _ => by unfold bnd; rw [if_pos h]; rfl

set_option maxHeartbeats 3200000 in
theorem ref_split (t : Int) (ws : List Int) (A : Option Addr) (c : Nat) (w : World) (hS : Cl eI w A ws) (hl : ws.length ≤ 9223372036854775807) :
    Calls Try.prog 12 #[.int .i64 t, .slice A ws.length c] w (ResL (splL t ws) (errS t ws) w) := by
  have HDIV := Lib.hid (ref_check t ws A c w hS hl)
  by_cases hE : errS t ws = 0
  · have ok := Ok.of hE
    obtain ⟨T, hT⟩ : ∃ T : Nat, T = t.toNat := ⟨_, rfl⟩
    have ht : t = (T : Int) := by have := ok.t0; omega
    have hTm : T ≤ 1125899906842624 := by have h1 := ok.t1; have hm : mx = 1125899906842624 := rfl; omega
    have HRES : Hid (splL t ws = partsL t ws) := if_pos hE
    have hW : chV t ws = (Share.tw (wf ws) ws.length : Int) := by unfold chV; rw [if_pos hE]; exact ok.twI.symm
    have hW1 : Share.tw (wf ws) ws.length ≤ 1125899906842624 := by have h1 := ok.sum; have h2 := ok.twI; have hm : mx = 1125899906842624 := rfl; omega
    rw [hW, hE] at HDIV
    have HLN : Hid (ws.length ≤ 512 ∧ 0 < ws.length) := ⟨ok.n1, ok.n0⟩
    have HTM := Lib.hid hTm
    rcases Nat.eq_zero_or_pos (Share.tw (wf ws) ws.length) with hz | hz
    · have HFIN := Lib.hid (partsL_zero (t := t) hz)
      rw [hz] at HDIV
      obtain ⟨n, hn⟩ : ∃ n, ws.length = n := ⟨_, rfl⟩
      have HTT := Lib.hid ht
      rw [hn] at HDIV HFIN HLN hl ⊢
      rw [hE]
      rw [ht] at HDIV ⊢
      have hn5 := HLN.out.1
      have hmk := fun W => make_ints n (by omega) W
      have hz0 : ((0 : Nat) : Int) = 0 := rfl
      rw [hz0] at HDIV
      clear hS hW hW1 ok hT ht hE hn hl hz hTm hz0
      go_enter Try.func12, Try.ntmps12
      go_wp2_with fail
      refine HDIV.out.mono ?_
      rintro e w1 ⟨rfl, rfl⟩
      go_upto_region 5 with fail
      have HOP0 := Lib.hid (one_made w n (by omega))
      have HBC0 := Lib.hid (below_alloc w (zeros n))
      obtain ⟨w2, hw2⟩ : ∃ W, w.alloc (zeros n) = W := ⟨_, rfl⟩
      have HOF : Hid (Own eI 3 w.heap.size w2 (.slice (some ⟨w.heap.size, 0, none⟩) n n) (splL t ws)) := by
        rw [HRES.out, HFIN.out, ← hw2]; exact HOP0.out
      have HBF : Hid (Below w.heap.size w w2) := hw2 ▸ HBC0.out
      rw [hw2]
      clear hw2 HOP0 HBC0 hmk
      go_wp2_with fail
      go_ret2
      exact ⟨_, rfl, by rw [← HTT.out]; exact HOF.out, HBF.out⟩
    · have HRK := Lib.hid (show ∀ k b, k < ws.length → FM (lefts (rst t.toNat (wf ws) ws.length) ws.length k) ws.length b → b < ws.length ∧ rank (rst t.toNat (wf ws) ws.length) ws.length b = k from fun k b hk h => ⟨h.1, lefts_best hk h⟩)
      obtain ⟨W, hWW⟩ : ∃ W, W = Share.tw (wf ws) ws.length := ⟨_, rfl⟩
      obtain ⟨q, hq⟩ : ∃ q, q = quo t.toNat (wf ws) ws.length := ⟨_, rfl⟩
      obtain ⟨r, hr⟩ : ∃ r, r = rst t.toNat (wf ws) ws.length := ⟨_, rfl⟩
      obtain ⟨L, hL⟩ : ∃ L, L = lft t.toNat (wf ws) ws.length := ⟨_, rfl⟩
      have HFIN : Hid (lst (fun j => (gots q r ws.length L j : Int)) ws.length = partsL t ws) := by
        show _ = _
        unfold partsL lst
        exact List.map_congr_left fun i hi => by rw [hq, hr, hL, ok.gots (List.mem_range.mp hi)]
      have HLL : Hid (L ≤ ws.length) := hL ▸ ok.lft_le
      have HSUM : Hid (∀ k, k ≤ ws.length → sm q k ≤ T) := fun k hk => by rw [hq, hT]; exact ok.quo_sum hk
      have HLQ : Hid (L = T - sm q ws.length) := by show L = _; rw [hL, hq, hT]; rfl
      have HDV := Lib.hid (show ∀ i, i < ws.length → ∀ W', Calls Try.prog 27 #[.int .i64 (wf ws i : Int), .int .i64 (T : Int), .int .i64 (W : Int)] W' fun e w' => e = .returned (.tuple #[.int .i64 (q i : Int), .int .i64 (r i : Int)]) ∧ W' = w' from fun i hi W' => by
        have h1 := ref_divide (a := wf ws i) (b := T) (c := W) (by rw [hWW]; exact ok.w_le hi) (by omega) (by omega) hTm W'
        have h2 : wf ws i * T / W = q i := by rw [hq, hWW, Nat.mul_comm, hT]; rfl
        have h3 : wf ws i * T % W = r i := by rw [hr, hWW, Nat.mul_comm, hT]; rfl
        rw [h2, h3] at h1
        exact h1)
      have HQL : Hid (∀ i, i < ws.length → q i ≤ 1125899906842624) := fun i hi => by rw [hq]; exact Nat.le_trans (quo_le hi) (by omega)
      have HWF : Hid (∀ (i : Nat) z, ws[i]? = some z → z = (wf ws i : Int)) := fun i z hz => (wf_at hz (ok.all z (List.mem_of_getElem? hz)).1).symm
      have HS := Lib.hid hS
      rw [← hr] at HRK
      rw [← hWW] at HDIV hz
      obtain ⟨n, hn⟩ : ∃ n, ws.length = n := ⟨_, rfl⟩
      have HN := Lib.hid hn
      have HTT := Lib.hid ht
      rw [hn] at HDIV HFIN HLN HLL HSUM HLQ HDV HQL HRK hl ⊢
      rw [hE]
      rw [ht] at HDIV ⊢
      have hn5 := HLN.out.1
      have hmk := fun W => make_ints n (by omega) W
      have hz1 : ¬ W = 0 := by omega
      have hz2 : ((W : Int) == 0) = false := by simp; omega
      clear hS hW hW1 ok hT ht hq hr hL hE hn hl hWW hTm hz
      go_enter Try.func12, Try.ntmps12
      go_wp2_with fail
      refine HDIV.out.mono ?_
      rintro e w1 ⟨rfl, rfl⟩
      go_upto_region 9 with fail
      have HM1 := Lib.hid (one_made w n (by omega))
      have HM2 := Lib.hid (one_made (w.alloc (zeros n)) n (by omega))
      have hsz : (w.alloc (zeros n)).heap.size = w.heap.size + 1 := by simp
      obtain ⟨w2, hw2⟩ : ∃ W, (w.alloc (zeros n)).alloc (zeros n) = W := ⟨_, rfl⟩
      obtain ⟨gp, hgp⟩ : ∃ g, w.heap.size = g := ⟨_, rfl⟩
      obtain ⟨gr, hgr⟩ : ∃ g, gp + 1 = g := ⟨_, rfl⟩
      rw [hsz] at HM2
      have HOP : Hid (Own eI 3 gp w2 (.slice (some ⟨gp, 0, none⟩) n n) (lst (fun _ => 0) n)) := hgp ▸ hw2 ▸ HM1.out.alloc _
      have HOR : Hid (Own eI 3 gp w2 (.slice (some ⟨gr, 0, none⟩) n n) (lst (fun _ => 0) n)) := by
        have h1 := HM2.out.less (B' := w.heap.size) (by omega)
        rw [hw2, hgp, hgr] at h1
        exact h1
      have HBC : Hid (Below gp w w2) := by
        have h1 := bstep (below_alloc w (zeros n)) (below_alloc _ (zeros n))
        rw [hw2, hgp] at h1
        exact h1
      have HNE : Hid (gp ≠ gr) := (by omega : gp ≠ gr)
      have HGP := Lib.hid hgp
      rw [hw2, hgp, hgr]
      clear hw2 hgp hgr hsz hmk HM1 HM2
      go_wp2_with fail
      go_loopw [9, 11] (fun l x wr => ∃ k M : Nat, l = .int .i64 (M : Int) ∧ x = .int .i64 (k : Int) ∧ k ≤ n ∧ M = T - sm q k ∧ Own eI 3 gp wr (.slice (some ⟨gp, 0, none⟩) n n) (upL q k n) ∧ Own eI 3 gp wr (.slice (some ⟨gr, 0, none⟩) n n) (upL r k n) ∧ Below gp w wr) (fun _ x _ => n - (RowKit.intOf x).toNat)
      case atStart => exact ⟨0, T, rfl, rfl, Nat.zero_le _, rfl, by rw [upL_zero]; exact HOP.out, by rw [upL_zero]; exact HOR.out, HBC.out⟩
      case round =>
        obtain ⟨k, M, rfl, rfl, hk, hM, hop, hor, hbel⟩ := hrel
        have HOP2 := Lib.hid hop
        have HOR2 := Lib.hid hor
        have HB := Lib.hid hbel
        have HM := Lib.hid hM
        clear hop hor hbel hM
        rcases Nat.lt_or_ge k n with hlt | hge
        · obtain ⟨z, hz⟩ := get_lt (L := ws) (k := k) (by rw [HN.out]; exact hlt)
          obtain ⟨b, off, hA, hb, hcell⟩ := (HS.out.on (by rw [HGP.out]; exact HB.out)) k z hz
          obtain rfl := hA
          obtain rfl := HWF.out k z hz
          have HZ := Lib.hid hz
          have HCALL := Lib.hid (HDV.out k hlt wr)
          obtain ⟨x, hx⟩ : ∃ x, x = wf ws k := ⟨_, rfl⟩
          obtain ⟨Q, hQ⟩ : ∃ x, x = q k := ⟨_, rfl⟩
          obtain ⟨R, hR⟩ : ∃ x, x = r k := ⟨_, rfl⟩
          rw [← hx] at hcell HCALL
          rw [← hQ, ← hR] at HCALL
          have HQR := Lib.hid (show Q = q k ∧ R = r k from ⟨hQ, hR⟩)
          have i1 : (k : Int) < (n : Int) := by omega
          have i2 : (0 : Int) ≤ (k : Int) := by omega
          have hk1 : IntKind.i64.wrap ((k : Int) + 1) = ((k + 1 : Nat) : Int) := wrap_id (by omega)
          clear hz hx hQ hR hb hk
          go_wp2_with fail
          refine HCALL.out.mono ?_
          rintro e w3 ⟨rfl, rfl⟩
          have cp := HOP2.out.cell (upL_at q hlt)
          have cr := HOR2.out.cell (upL_at r hlt)
          have fp := HOP2.out.warm (upL_len q k n).symm k
          have fr := HOR2.out.warm (upL_len r k n).symm k
          have hne1 := HNE.out
          have hne2 : gr ≠ gp := fun e => HNE.out e.symm
          have HPP : Hid (Own eI 3 gp ((wr.setCell ⟨gp, k, none⟩ (.int .i64 (Q : Int))).setCell ⟨gr, k, none⟩ (.int .i64 (R : Int))) (.slice (some ⟨gp, 0, none⟩) n n) (upL q (k + 1) n)) := by
            have h1 := HOP2.out.set (upL_len q k n).symm k (Q : Int)
            rw [HQR.out.1, upL_set q hlt] at h1
            rw [HQR.out.1]
            exact h1.other (p := ⟨gr, k, none⟩) (by show some gp ≠ some gr; simpa using HNE.out) _
          have HRR : Hid (Own eI 3 gp ((wr.setCell ⟨gp, k, none⟩ (.int .i64 (Q : Int))).setCell ⟨gr, k, none⟩ (.int .i64 (R : Int))) (.slice (some ⟨gr, 0, none⟩) n n) (upL r (k + 1) n)) := by
            have h1 := HOR2.out.other (p := ⟨gp, k, none⟩) (by show some gr ≠ some gp; simpa using hne2) (.int .i64 (Q : Int))
            have h2 := h1.set (upL_len r k n).symm k (R : Int)
            rw [HQR.out.2, upL_set r hlt] at h2
            rw [HQR.out.2]
            exact h2
          have HBB : Hid (Below gp w ((wr.setCell ⟨gp, k, none⟩ (.int .i64 (Q : Int))).setCell ⟨gr, k, none⟩ (.int .i64 (R : Int)))) := below_set (below_set HB.out (p := ⟨gp, k, none⟩) (Nat.le_refl _) _) (p := ⟨gr, k, none⟩) (HOR2.out.lt gr rfl).1 _
          have HSK := Lib.hid (show sm q (k + 1) ≤ T ∧ sm q (k + 1) = sm q k + Q by
            refine ⟨HSUM.out _ hlt, by rw [HQR.out.1]; rfl⟩)
          obtain ⟨M', hM'⟩ : ∃ x, x = M - Q := ⟨_, rfl⟩
          have HMM := Lib.hid (show M' = T - sm q (k + 1) ∧ Q ≤ M ∧ M' = M - Q by have := HM.out; have := HSK.out; omega)
          have HQB : Hid (Q ≤ 1125899906842624) := HQR.out.1 ▸ HQL.out k hlt
          have hwm : IntKind.i64.wrap ((M : Int) - (Q : Int)) = (M' : Int) := by
            have h1 := HMM.out
            have h2 := HQB.out
            by_cases h3 : M ≤ 1125899906842624
            · rw [wrap_id (by omega)]; omega
            · have h4 := HM.out
              have h5 := HTM.out
              omega
          have HLT := Lib.hid hlt
          clear hM' hlt
          go_wp2_with fail
          go_roundw
          case rel => exact ⟨k + 1, M', rfl, rfl, HLT.out, HMM.out.1, HPP.out, HRR.out, HBB.out⟩
          case measure =>
            have := HLT.out
            simp [RowKit.intOf]; omega
        · obtain rfl : n = k := by omega
          obtain rfl : L = M := by have h1 := HM.out; have h2 := HLQ.out; omega
          have HOP4 : Hid (Own eI 3 gp wr (.slice (some ⟨gp, 0, none⟩) n n) (lst (fun j => (gots q r n 0 j : Int)) n)) := by
            have h1 := HOP2.out
            rw [upL_all] at h1
            rw [lst_congr (g := fun j => (q j : Int)) fun i _ => by rw [gots_zero]]
            exact h1
          have HOR4 : Hid (Own eI 3 gp wr (.slice (some ⟨gr, 0, none⟩) n n) (lst (lefts r n 0) n)) := by
            have h1 := HOR2.out
            rw [upL_all] at h1
            rw [lst_congr (g := fun j => (r j : Int)) fun i _ => lefts_zero r n i]
            exact h1
          clear hk hge
          go_wp2_with fail
          go_loopw [9, 12, 13] (fun l _ _ wr' => ∃ k M : Nat, l = .int .i64 (M : Int) ∧ k + M = L ∧ Own eI 3 gp wr' (.slice (some ⟨gp, 0, none⟩) n n) (lst (fun j => (gots q r n k j : Int)) n) ∧ Own eI 3 gp wr' (.slice (some ⟨gr, 0, none⟩) n n) (lst (lefts r n k) n) ∧ Below gp w wr') (fun l _ _ _ => (RowKit.intOf l).toNat)
          case atStart => exact ⟨0, L, rfl, by omega, HOP4.out, HOR4.out, HB.out⟩
          case round =>
            obtain ⟨k, M, rfl, hkM, hop, hor, hbel⟩ := hrel
            have HOP5 := Lib.hid hop
            have HOR5 := Lib.hid hor
            have HB5 := Lib.hid hbel
            have HKM := Lib.hid hkM
            have hLn := HLL.out
            clear hop hor hbel
            rcases Nat.eq_zero_or_pos M with rfl | hpos
            · obtain rfl : k = L := by omega
              have HOF : Hid (Own eI 3 w.heap.size wr (.slice (some ⟨gp, 0, none⟩) n n) (splL t ws)) := by
                rw [HRES.out, ← HFIN.out, HGP.out]
                exact HOP5.out
              have HBF : Hid (Below w.heap.size w wr) := HGP.out.symm ▸ HB5.out
              clear hkM hLn
              go_wp2_with fail
              go_ret2
              exact ⟨_, rfl, by rw [← HTT.out]; exact HOF.out, HBF.out⟩
            · have HKN : Hid (k < n) := (by omega : k < n)
              have f1 : 0 < M := hpos
              obtain ⟨M1, hM1⟩ : ∃ x, x = M - 1 := ⟨_, rfl⟩
              have hwm : IntKind.i64.wrap ((M : Int) - 1) = (M1 : Int) := by rw [wrap_id (by omega)]; omega
              have HMM := Lib.hid (show k + 1 + M1 = L ∧ M1 < M by omega)
              clear hkM hLn hpos hM1
              go_wp2_with fail
              go_loopw [12, 13] (fun b x wr2 => ∃ i j : Nat, b = .int .i64 (j : Int) ∧ x = .int .i64 (i : Int) ∧ i ≤ n ∧ FM (lefts r n k) i j ∧ Own eI 3 gp wr2 (.slice (some ⟨gp, 0, none⟩) n n) (lst (fun j => (gots q r n k j : Int)) n) ∧ Own eI 3 gp wr2 (.slice (some ⟨gr, 0, none⟩) n n) (lst (lefts r n k) n) ∧ Below gp w wr2) (fun _ x _ => n - (RowKit.intOf x).toNat)
              case atStart => exact ⟨1, 0, rfl, rfl, by have := HKN.out; omega, FM.start _, HOP5.out, HOR5.out, HB5.out⟩
              case round =>
                obtain ⟨i, j, rfl, rfl, hi, hfm, hop, hor, hbel⟩ := hrel
                have HOP6 := Lib.hid hop
                have HOR6 := Lib.hid hor
                have HB6 := Lib.hid hbel
                have HFM := Lib.hid hfm
                have hn6 := hn5
                clear hop hor hbel hfm
                rcases Nat.lt_or_ge i n with hlt | hge
                · have ci := HOR6.out.cell (lst_at (lefts r n k) hlt)
                  have cj := HOR6.out.cell (lst_at (lefts r n k) (show j < n from Nat.lt_trans HFM.out.1 hlt))
                  obtain ⟨x, hx⟩ : ∃ x, x = lefts r n k i := ⟨_, rfl⟩
                  obtain ⟨y, hy⟩ : ∃ y, y = lefts r n k j := ⟨_, rfl⟩
                  rw [← hx] at ci
                  rw [← hy] at cj
                  have hji := HFM.out.1
                  have i1 : (i : Int) < (n : Int) := by omega
                  have i2 : (0 : Int) ≤ (i : Int) := by omega
                  have i3 : (j : Int) < (n : Int) := by omega
                  have i4 : (0 : Int) ≤ (j : Int) := by omega
                  have hk1 : IntKind.i64.wrap ((i : Int) + 1) = ((i + 1 : Nat) : Int) := wrap_id (by omega)
                  have HLT := Lib.hid hlt
                  rcases Int.lt_or_le y x with hc | hc
                  · have HFN : Hid (FM (lefts r n k) (i + 1) i) := HFM.out.new (by rw [← hx, ← hy]; exact hc)
                    clear hx hy hji hi hlt hn6
                    go_wp2_with fail
                    go_quiet (fail)
                    go_wp2_with fail
                    go_roundw
                    case rel => exact ⟨i + 1, i, rfl, rfl, HLT.out, HFN.out, HOP6.out.drewN _, HOR6.out.drewN _, below_drewN HB6.out _⟩
                    case measure =>
                      have := HLT.out
                      simp [RowKit.intOf]; omega
                  · have HFN : Hid (FM (lefts r n k) (i + 1) j) := HFM.out.old (by rw [← hx, ← hy]; exact hc)
                    have hc2 : ¬ y < x := by omega
                    clear hx hy hji hi hlt hc hn6
                    go_wp2_with fail
                    go_quiet (fail)
                    go_wp2_with fail
                    go_roundw
                    case rel => exact ⟨i + 1, j, rfl, rfl, HLT.out, HFN.out, HOP6.out.drewN _, HOR6.out.drewN _, below_drewN HB6.out _⟩
                    case measure =>
                      have := HLT.out
                      simp [RowKit.intOf]; omega
                · obtain rfl : n = i := by omega
                  have HJ := Lib.hid (HRK.out k j HKN.out HFM.out)
                  have hj := HJ.out.1
                  have cx := HOP6.out.cell (lst_at (fun j => (gots q r n k j : Int)) hj)
                  have cz := HOR6.out.cell (lst_at (lefts r n k) hj)
                  have fx := HOP6.out.warm (lst_len _ n).symm j
                  have fz := HOR6.out.warm (lst_len _ n).symm j
                  obtain ⟨G, hG⟩ : ∃ x', x' = gots q r n k j := ⟨_, rfl⟩
                  obtain ⟨Z, hZ⟩ : ∃ x', x' = lefts r n k j := ⟨_, rfl⟩
                  rw [← hG] at cx
                  rw [← hZ] at cz
                  have hGb : G ≤ 1125899906842625 := by
                    have h1 := HQL.out j hj
                    rw [hG]; unfold gots; split <;> omega
                  have hne2 : gr ≠ gp := fun e => HNE.out e.symm
                  have hne1 := HNE.out
                  have HNX : Hid (Own eI 3 gp ((wr.setCell ⟨gp, j, none⟩ (.int .i64 ((G + 1 : Nat) : Int))).setCell ⟨gr, j, none⟩ (.int .i64 (-1))) (.slice (some ⟨gp, 0, none⟩) n n) (lst (fun j => (gots q r n (k + 1) j : Int)) n)) := by
                    have h1 := HOP6.out.set (lst_len _ n).symm j ((G + 1 : Nat) : Int)
                    rw [lst_set (g := fun j => (gots q r n (k + 1) j : Int)) hj fun i hi => by
                      rw [gots_next hj HJ.out.2 hi]
                      by_cases h2 : i = j
                      · rw [if_pos h2, if_pos h2, h2, hG]
                      · rw [if_neg h2, if_neg h2]] at h1
                    exact h1.other (p := ⟨gr, j, none⟩) (by show some gp ≠ some gr; simpa using HNE.out) _
                  have HRX : Hid (Own eI 3 gp ((wr.setCell ⟨gp, j, none⟩ (.int .i64 ((G + 1 : Nat) : Int))).setCell ⟨gr, j, none⟩ (.int .i64 (-1))) (.slice (some ⟨gr, 0, none⟩) n n) (lst (lefts r n (k + 1)) n)) := by
                    have h1 := HOR6.out.other (p := ⟨gp, j, none⟩) (by show some gr ≠ some gp; simpa using hne2) (.int .i64 ((G + 1 : Nat) : Int))
                    have h2 := h1.set (lst_len _ n).symm j (-1)
                    rw [lst_set (g := lefts r n (k + 1)) hj fun i hi => lefts_next hj HJ.out.2 hi] at h2
                    exact h2
                  have HBX : Hid (Below gp w ((wr.setCell ⟨gp, j, none⟩ (.int .i64 ((G + 1 : Nat) : Int))).setCell ⟨gr, j, none⟩ (.int .i64 (-1)))) := below_set (below_set HB6.out (p := ⟨gp, j, none⟩) (Nat.le_refl _) _) (p := ⟨gr, j, none⟩) (HOR6.out.lt gr rfl).1 _
                  have i3 : (j : Int) < (n : Int) := by omega
                  have i4 : (0 : Int) ≤ (j : Int) := by omega
                  have hg1 : IntKind.i64.wrap ((G : Int) + 1) = ((G + 1 : Nat) : Int) := wrap_id (by omega)
                  clear hG hGb hj hi hge hZ hn6
                  go_wp2_with fail
                  go_roundw
                  case rel => exact ⟨k + 1, M1, rfl, HMM.out.1, HNX.out, HRX.out, HBX.out⟩
                  case measure =>
                    have := HMM.out
                    simp [RowKit.intOf]; omega
  · obtain ⟨E, hEE⟩ : ∃ E, E = errS t ws := ⟨_, rfl⟩
    have HRES : Hid (splL t ws = []) := if_neg hE
    have hE1 : ((E : Int) != 0) = true := by simp; omega
    have hE2 : ¬ E = 0 := by omega
    have hE3 : ¬ (E : Int) = 0 := by omega
    obtain ⟨D, hD⟩ : ∃ D, D = chV t ws := ⟨_, rfl⟩
    obtain ⟨n, hn⟩ : ∃ n, ws.length = n := ⟨_, rfl⟩
    rw [← hEE, ← hD, hn] at HDIV
    rw [← hEE, hn]
    clear hEE hD hS hl hn hE
    go_enter Try.func12, Try.ntmps12
    go_wp2_with fail
    refine HDIV.out.mono ?_
    rintro e w1 ⟨rfl, rfl⟩
    go_wp2_with fail
    go_ret2
    exact ⟨_, rfl, by rw [HRES.out]; exact Own.nil _ _ _ _, Below.refl _ _⟩
#print axioms ref_split
end Go.Proofs.Ytdolhanniiejfaa.Share
