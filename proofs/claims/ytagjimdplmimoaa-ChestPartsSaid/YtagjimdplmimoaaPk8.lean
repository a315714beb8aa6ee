/- Several texts in one: ShareI, ShareJ, ShareK, ChestC, RowI, ChestD. -/
import Derived.Test.YtagjimdplmimoaaPk7
import Derived.Test.YtagjimdplmimoaaPk2
import Derived.Test.YtagjimdplmimoaaPk1
import Derived.Test.YtagjimdplmimoaaPk3
import Derived.Lib.OwnBridge
/- Split of the reference. -/
namespace Go.Proofs.Ytagjimdplmimoaa.Share
open Go.ChangeShapes Go.WideShapes Go.RowKit Go.Lib Go.Proofs.Ytagjimdplmimoaa.Mem
set_option linter.unusedVariables false
set_option maxRecDepth 100000

theorem lefts_lo (r : Nat → Nat) (n k i : Nat) : -1 ≤ lefts r n k i := by
  unfold lefts; split <;> omega
theorem partsL_zero {t : Int} {ws : List Int} (h : Share.tw (wf ws) ws.length = 0) : partsL t ws = lst (fun _ => 0) ws.length := by
  unfold partsL lst
  exact List.map_congr_left fun i _ => by unfold part; rw [if_pos h]; rfl
theorem bndsL_zero {t : Int} {ws : List Int} (h : Share.tw (wf ws) ws.length = 0) : bndsL t ws = lst (fun _ => 0) ws.length := by
  unfold bndsL lst
  exact List.map_congr_left fun i _ => by unfold bnd; rw [if_pos h]; rfl

set_option maxHeartbeats 3200000 in
theorem ref_split (t : Int) (ws : List Int) (A : Option Addr) (c : Nat) (w : World) (hS : Cl eI w A ws) (hl : ws.length ≤ 9223372036854775807) :
    Calls Try.prog 38 #[.int .i64 t, .slice A ws.length c] w (ResL (splL t ws) (errS t ws) w) := by
  have HDIV := Lib.hid (ref_check t ws A c w hS hl)
  by_cases hE : errS t ws = 0
  · have ok := Ok.of hE
    obtain ⟨T, hT⟩ : ∃ T : Nat, T = t.toNat := ⟨_, rfl⟩
    have ht : t = (T : Int) := by have := ok.t0; omega
    have hTm : T ≤ 1125899906842624 := by have h1 := ok.t1; have hm : mx = 1125899906842624 := rfl; omega
    have HRES : Hid (splL t ws = partsL t ws) := if_pos hE
    have hW : chV t ws = (Share.tw (wf ws) ws.length : Int) := by unfold chV; rw [if_pos hE]; exact ok.twI.symm
    have hW1 : Share.tw (wf ws) ws.length ≤ 1125899906842624 := by have h1 := ok.sum; have h2 := ok.twI; have hm : mx = 1125899906842624 := rfl; omega
    rw [hW, hE] at HDIV
    have HLN : Hid (ws.length ≤ 512 ∧ 0 < ws.length) := ⟨ok.n1, ok.n0⟩
    have HTM := Lib.hid hTm
    rcases Nat.eq_zero_or_pos (Share.tw (wf ws) ws.length) with hz | hz
    · have HFIN := Lib.hid (partsL_zero (t := t) hz)
      rw [hz] at HDIV
      obtain ⟨n, hn⟩ : ∃ n, ws.length = n := ⟨_, rfl⟩
      have HTT := Lib.hid ht
      rw [hn] at HDIV HFIN HLN hl ⊢
      rw [hE]
      rw [ht] at HDIV ⊢
      have hn5 := HLN.out.1
      have hmk := fun W => make_ints n (by omega) W
      have hz0 : ((0 : Nat) : Int) = 0 := rfl
      rw [hz0] at HDIV
      clear hS hW hW1 ok hT ht hE hn hl hz hTm hz0
      go_enter Try.func38, Try.ntmps38
      go_wp2_with fail
      refine HDIV.out.mono ?_
      rintro e w1 ⟨rfl, rfl⟩
      go_upto_region 5 with fail
      have HOP0 := Lib.hid (one_made w n (by omega))
      have HBC0 := Lib.hid (below_alloc w (zeros n))
      obtain ⟨w2, hw2⟩ : ∃ W, w.alloc (zeros n) = W := ⟨_, rfl⟩
      have HOF : Hid (Own eI 3 w.heap.size w2 (.slice (some ⟨w.heap.size, 0, none⟩) n n) (splL t ws)) := by
        rw [HRES.out, HFIN.out, ← hw2]; exact HOP0.out
      have HBF : Hid (Below w.heap.size w w2) := hw2 ▸ HBC0.out
      rw [hw2]
      clear hw2 HOP0 HBC0 hmk
      go_wp2_with fail
      go_ret2
      exact ⟨_, rfl, by rw [← HTT.out]; exact HOF.out, HBF.out⟩
    · have HRK := Lib.hid (show ∀ k b, k < ws.length → FM (lefts (rst t.toNat (wf ws) ws.length) ws.length k) ws.length b → b < ws.length ∧ rank (rst t.toNat (wf ws) ws.length) ws.length b = k from fun k b hk h => ⟨h.1, lefts_best hk h⟩)
      obtain ⟨W, hWW⟩ : ∃ W, W = Share.tw (wf ws) ws.length := ⟨_, rfl⟩
      obtain ⟨q, hq⟩ : ∃ q, q = quo t.toNat (wf ws) ws.length := ⟨_, rfl⟩
      obtain ⟨r, hr⟩ : ∃ r, r = rst t.toNat (wf ws) ws.length := ⟨_, rfl⟩
      obtain ⟨L, hL⟩ : ∃ L, L = lft t.toNat (wf ws) ws.length := ⟨_, rfl⟩
      have HFIN : Hid (lst (fun j => (gots q r ws.length L j : Int)) ws.length = partsL t ws) := by
        show _ = _
        unfold partsL lst
        exact List.map_congr_left fun i hi => by rw [hq, hr, hL, ok.gots (List.mem_range.mp hi)]
      have HLL : Hid (L ≤ ws.length) := hL ▸ ok.lft_le
      have HSUM : Hid (∀ k, k ≤ ws.length → sm q k ≤ T) := fun k hk => by rw [hq, hT]; exact ok.quo_sum hk
      have HLQ : Hid (L = T - sm q ws.length) := by show L = _; rw [hL, hq, hT]; rfl
      have HDV := Lib.hid (show ∀ i, i < ws.length → ∀ W', Calls Try.prog 52 #[.int .i64 (wf ws i : Int), .int .i64 (T : Int), .int .i64 (W : Int)] W' fun e w' => e = .returned (.tuple #[.int .i64 (q i : Int), .int .i64 (r i : Int)]) ∧ W' = w' from fun i hi W' => by
        have h1 := ref_divide (a := wf ws i) (b := T) (c := W) (by rw [hWW]; exact ok.w_le hi) (by omega) (by omega) hTm W'
        have h2 : wf ws i * T / W = q i := by rw [hq, hWW, Nat.mul_comm, hT]; rfl
        have h3 : wf ws i * T % W = r i := by rw [hr, hWW, Nat.mul_comm, hT]; rfl
        rw [h2, h3] at h1
        exact h1)
      have HQL : Hid (∀ i, i < ws.length → q i ≤ 1125899906842624) := fun i hi => by rw [hq]; exact Nat.le_trans (quo_le hi) (by omega)
      have HWF : Hid (∀ (i : Nat) z, ws[i]? = some z → z = (wf ws i : Int)) := fun i z hz => (wf_at hz (ok.all z (List.mem_of_getElem? hz)).1).symm
      have HS := Lib.hid hS
      rw [← hr] at HRK
      rw [← hWW] at HDIV hz
      obtain ⟨n, hn⟩ : ∃ n, ws.length = n := ⟨_, rfl⟩
      have HN := Lib.hid hn
      have HTT := Lib.hid ht
      rw [hn] at HDIV HFIN HLN HLL HSUM HLQ HDV HQL HRK hl ⊢
      rw [hE]
      rw [ht] at HDIV ⊢
      have hn5 := HLN.out.1
      have hmk := fun W => make_ints n (by omega) W
      have hz1 : ¬ W = 0 := by omega
      have hz2 : ((W : Int) == 0) = false := by simp; omega
      clear hS hW hW1 ok hT ht hq hr hL hE hn hl hWW hTm hz
      go_enter Try.func38, Try.ntmps38
      go_wp2_with fail
      refine HDIV.out.mono ?_
      rintro e w1 ⟨rfl, rfl⟩
      go_upto_region 9 with fail
      have HM1 := Lib.hid (one_made w n (by omega))
      have HM2 := Lib.hid (one_made (w.alloc (zeros n)) n (by omega))
      have hsz : (w.alloc (zeros n)).heap.size = w.heap.size + 1 := by simp
      obtain ⟨w2, hw2⟩ : ∃ W, (w.alloc (zeros n)).alloc (zeros n) = W := ⟨_, rfl⟩
      obtain ⟨gp, hgp⟩ : ∃ g, w.heap.size = g := ⟨_, rfl⟩
      obtain ⟨gr, hgr⟩ : ∃ g, gp + 1 = g := ⟨_, rfl⟩
      rw [hsz] at HM2
      have HOP : Hid (Own eI 3 gp w2 (.slice (some ⟨gp, 0, none⟩) n n) (lst (fun _ => 0) n)) := hgp ▸ hw2 ▸ HM1.out.alloc _
      have HOR : Hid (Own eI 3 gp w2 (.slice (some ⟨gr, 0, none⟩) n n) (lst (fun _ => 0) n)) := by
        have h1 := HM2.out.less (B' := w.heap.size) (by omega)
        rw [hw2, hgp, hgr] at h1
        exact h1
      have HBC : Hid (Below gp w w2) := by
        have h1 := bstep (below_alloc w (zeros n)) (below_alloc _ (zeros n))
        rw [hw2, hgp] at h1
        exact h1
      have HNE : Hid (gp ≠ gr) := (by omega : gp ≠ gr)
      have HGP := Lib.hid hgp
      rw [hw2, hgp, hgr]
      clear hw2 hgp hgr hsz hmk HM1 HM2
      go_wp2_with fail
      go_loopw [9, 11] (fun l x wr => ∃ k M : Nat, l = .int .i64 (M : Int) ∧ x = .int .i64 (k : Int) ∧ k ≤ n ∧ M = T - sm q k ∧ Own eI 3 gp wr (.slice (some ⟨gp, 0, none⟩) n n) (upL q k n) ∧ Own eI 3 gp wr (.slice (some ⟨gr, 0, none⟩) n n) (upL r k n) ∧ Below gp w wr) (fun _ x _ => n - (RowKit.intOf x).toNat)
      case atStart => exact ⟨0, T, rfl, rfl, Nat.zero_le _, rfl, by rw [upL_zero]; exact HOP.out, by rw [upL_zero]; exact HOR.out, HBC.out⟩
      case round =>
        obtain ⟨k, M, rfl, rfl, hk, hM, hop, hor, hbel⟩ := hrel
        have HOP2 := Lib.hid hop
        have HOR2 := Lib.hid hor
        have HB := Lib.hid hbel
        have HM := Lib.hid hM
        clear hop hor hbel hM
        rcases Nat.lt_or_ge k n with hlt | hge
        · obtain ⟨z, hz⟩ := get_lt (L := ws) (k := k) (by rw [HN.out]; exact hlt)
          obtain ⟨b, off, hA, hb, hcell⟩ := (HS.out.on (by rw [HGP.out]; exact HB.out)) k z hz
          obtain rfl := hA
          obtain rfl := HWF.out k z hz
          have HZ := Lib.hid hz
          have HCALL := Lib.hid (HDV.out k hlt wr)
          obtain ⟨x, hx⟩ : ∃ x, x = wf ws k := ⟨_, rfl⟩
          obtain ⟨Q, hQ⟩ : ∃ x, x = q k := ⟨_, rfl⟩
          obtain ⟨R, hR⟩ : ∃ x, x = r k := ⟨_, rfl⟩
          rw [← hx] at hcell HCALL
          rw [← hQ, ← hR] at HCALL
          have HQR := Lib.hid (show Q = q k ∧ R = r k from ⟨hQ, hR⟩)
          have i1 : (k : Int) < (n : Int) := by omega
          have i2 : (0 : Int) ≤ (k : Int) := by omega
          have hk1 : IntKind.i64.wrap ((k : Int) + 1) = ((k + 1 : Nat) : Int) := wrap_id (by omega)
          clear hz hx hQ hR hb hk
          go_wp2_with fail
          refine HCALL.out.mono ?_
          rintro e w3 ⟨rfl, rfl⟩
          have cp := HOP2.out.cell (upL_at q hlt)
          have cr := HOR2.out.cell (upL_at r hlt)
          have fp := HOP2.out.warm (upL_len q k n).symm k
          have fr := HOR2.out.warm (upL_len r k n).symm k
          have hne1 := HNE.out
          have hne2 : gr ≠ gp := fun e => HNE.out e.symm
          have HPP : Hid (Own eI 3 gp ((wr.setCell ⟨gp, k, none⟩ (.int .i64 (Q : Int))).setCell ⟨gr, k, none⟩ (.int .i64 (R : Int))) (.slice (some ⟨gp, 0, none⟩) n n) (upL q (k + 1) n)) := by
            have h1 := HOP2.out.set (upL_len q k n).symm k (Q : Int)
            rw [HQR.out.1, upL_set q hlt] at h1
            rw [HQR.out.1]
            exact h1.other (p := ⟨gr, k, none⟩) (by show some gp ≠ some gr; simpa using HNE.out) _
          have HRR : Hid (Own eI 3 gp ((wr.setCell ⟨gp, k, none⟩ (.int .i64 (Q : Int))).setCell ⟨gr, k, none⟩ (.int .i64 (R : Int))) (.slice (some ⟨gr, 0, none⟩) n n) (upL r (k + 1) n)) := by
            have h1 := HOR2.out.other (p := ⟨gp, k, none⟩) (by show some gr ≠ some gp; simpa using hne2) (.int .i64 (Q : Int))
            have h2 := h1.set (upL_len r k n).symm k (R : Int)
            rw [HQR.out.2, upL_set r hlt] at h2
            rw [HQR.out.2]
            exact h2
          have HBB : Hid (Below gp w ((wr.setCell ⟨gp, k, none⟩ (.int .i64 (Q : Int))).setCell ⟨gr, k, none⟩ (.int .i64 (R : Int)))) := below_set (below_set HB.out (p := ⟨gp, k, none⟩) (Nat.le_refl _) _) (p := ⟨gr, k, none⟩) (HOR2.out.lt gr rfl).1 _
          have HSK := Lib.hid (show sm q (k + 1) ≤ T ∧ sm q (k + 1) = sm q k + Q by
            refine ⟨HSUM.out _ hlt, by rw [HQR.out.1]; rfl⟩)
          obtain ⟨M', hM'⟩ : ∃ x, x = M - Q := ⟨_, rfl⟩
          have HMM := Lib.hid (show M' = T - sm q (k + 1) ∧ Q ≤ M ∧ M' = M - Q by have := HM.out; have := HSK.out; omega)
          have HQB : Hid (Q ≤ 1125899906842624) := HQR.out.1 ▸ HQL.out k hlt
          have hwm : IntKind.i64.wrap ((M : Int) - (Q : Int)) = (M' : Int) := by
            have h1 := HMM.out
            have h2 := HQB.out
            by_cases h3 : M ≤ 1125899906842624
            · rw [wrap_id (by omega)]; omega
            · have h4 := HM.out
              have h5 := HTM.out
              omega
          have HLT := Lib.hid hlt
          clear hM' hlt
          go_wp2_with fail
          go_roundw
          case rel => exact ⟨k + 1, M', rfl, rfl, HLT.out, HMM.out.1, HPP.out, HRR.out, HBB.out⟩
          case measure =>
            have := HLT.out
            simp [RowKit.intOf]; omega
        · obtain rfl : n = k := by omega
          obtain rfl : L = M := by have h1 := HM.out; have h2 := HLQ.out; omega
          have HOP4 : Hid (Own eI 3 gp wr (.slice (some ⟨gp, 0, none⟩) n n) (lst (fun j => (gots q r n 0 j : Int)) n)) := by
            have h1 := HOP2.out
            rw [upL_all] at h1
            rw [lst_congr (g := fun j => (q j : Int)) fun i _ => by rw [gots_zero]]
            exact h1
          have HOR4 : Hid (Own eI 3 gp wr (.slice (some ⟨gr, 0, none⟩) n n) (lst (lefts r n 0) n)) := by
            have h1 := HOR2.out
            rw [upL_all] at h1
            rw [lst_congr (g := fun j => (r j : Int)) fun i _ => lefts_zero r n i]
            exact h1
          clear hk hge
          go_wp2_with fail
          go_loopw [9, 12, 13] (fun l _ _ wr' => ∃ k M : Nat, l = .int .i64 (M : Int) ∧ k + M = L ∧ Own eI 3 gp wr' (.slice (some ⟨gp, 0, none⟩) n n) (lst (fun j => (gots q r n k j : Int)) n) ∧ Own eI 3 gp wr' (.slice (some ⟨gr, 0, none⟩) n n) (lst (lefts r n k) n) ∧ Below gp w wr') (fun l _ _ _ => (RowKit.intOf l).toNat)
          case atStart => exact ⟨0, L, rfl, by omega, HOP4.out, HOR4.out, HB.out⟩
          case round =>
            obtain ⟨k, M, rfl, hkM, hop, hor, hbel⟩ := hrel
            have HOP5 := Lib.hid hop
            have HOR5 := Lib.hid hor
            have HB5 := Lib.hid hbel
            have HKM := Lib.hid hkM
            have hLn := HLL.out
            clear hop hor hbel
            rcases Nat.eq_zero_or_pos M with rfl | hpos
            · obtain rfl : k = L := by omega
              have HOF : Hid (Own eI 3 w.heap.size wr (.slice (some ⟨gp, 0, none⟩) n n) (splL t ws)) := by
                rw [HRES.out, ← HFIN.out, HGP.out]
                exact HOP5.out
              have HBF : Hid (Below w.heap.size w wr) := HGP.out.symm ▸ HB5.out
              clear hkM hLn
              go_wp2_with fail
              go_ret2
              exact ⟨_, rfl, by rw [← HTT.out]; exact HOF.out, HBF.out⟩
            · have HKN : Hid (k < n) := (by omega : k < n)
              have f1 : 0 < M := hpos
              obtain ⟨M1, hM1⟩ : ∃ x, x = M - 1 := ⟨_, rfl⟩
              have hwm : IntKind.i64.wrap ((M : Int) - 1) = (M1 : Int) := by rw [wrap_id (by omega)]; omega
              have HMM := Lib.hid (show k + 1 + M1 = L ∧ M1 < M by omega)
              clear hkM hLn hpos hM1
              go_wp2_with fail
              go_loopw [12, 13] (fun b x wr2 => ∃ i j : Nat, b = .int .i64 (j : Int) ∧ x = .int .i64 (i : Int) ∧ i ≤ n ∧ FM (lefts r n k) i j ∧ Own eI 3 gp wr2 (.slice (some ⟨gp, 0, none⟩) n n) (lst (fun j => (gots q r n k j : Int)) n) ∧ Own eI 3 gp wr2 (.slice (some ⟨gr, 0, none⟩) n n) (lst (lefts r n k) n) ∧ Below gp w wr2) (fun _ x _ => n - (RowKit.intOf x).toNat)
              case atStart => exact ⟨1, 0, rfl, rfl, by have := HKN.out; omega, FM.start _, HOP5.out, HOR5.out, HB5.out⟩
              case round =>
                obtain ⟨i, j, rfl, rfl, hi, hfm, hop, hor, hbel⟩ := hrel
                have HOP6 := Lib.hid hop
                have HOR6 := Lib.hid hor
                have HB6 := Lib.hid hbel
                have HFM := Lib.hid hfm
                have hn6 := hn5
                clear hop hor hbel hfm
                rcases Nat.lt_or_ge i n with hlt | hge
                · have ci := HOR6.out.cell (lst_at (lefts r n k) hlt)
                  have cj := HOR6.out.cell (lst_at (lefts r n k) (show j < n from Nat.lt_trans HFM.out.1 hlt))
                  obtain ⟨x, hx⟩ : ∃ x, x = lefts r n k i := ⟨_, rfl⟩
                  obtain ⟨y, hy⟩ : ∃ y, y = lefts r n k j := ⟨_, rfl⟩
                  rw [← hx] at ci
                  rw [← hy] at cj
                  have hji := HFM.out.1
                  have i1 : (i : Int) < (n : Int) := by omega
                  have i2 : (0 : Int) ≤ (i : Int) := by omega
                  have i3 : (j : Int) < (n : Int) := by omega
                  have i4 : (0 : Int) ≤ (j : Int) := by omega
                  have hk1 : IntKind.i64.wrap ((i : Int) + 1) = ((i + 1 : Nat) : Int) := wrap_id (by omega)
                  have HLT := Lib.hid hlt
                  rcases Int.lt_or_le y x with hc | hc
                  · have HFN : Hid (FM (lefts r n k) (i + 1) i) := HFM.out.new (by rw [← hx, ← hy]; exact hc)
                    clear hx hy hji hi hlt hn6
                    go_wp2_with fail
                    go_quiet (fail)
                    go_wp2_with fail
                    go_roundw
                    case rel => exact ⟨i + 1, i, rfl, rfl, HLT.out, HFN.out, HOP6.out.drewN _, HOR6.out.drewN _, below_drewN HB6.out _⟩
                    case measure =>
                      have := HLT.out
                      simp [RowKit.intOf]; omega
                  · have HFN : Hid (FM (lefts r n k) (i + 1) j) := HFM.out.old (by rw [← hx, ← hy]; exact hc)
                    have hc2 : ¬ y < x := by omega
                    clear hx hy hji hi hlt hc hn6
                    go_wp2_with fail
                    go_quiet (fail)
                    go_wp2_with fail
                    go_roundw
                    case rel => exact ⟨i + 1, j, rfl, rfl, HLT.out, HFN.out, HOP6.out.drewN _, HOR6.out.drewN _, below_drewN HB6.out _⟩
                    case measure =>
                      have := HLT.out
                      simp [RowKit.intOf]; omega
                · obtain rfl : n = i := by omega
                  have HJ := Lib.hid (HRK.out k j HKN.out HFM.out)
                  have hj := HJ.out.1
                  have cx := HOP6.out.cell (lst_at (fun j => (gots q r n k j : Int)) hj)
                  have cz := HOR6.out.cell (lst_at (lefts r n k) hj)
                  have fx := HOP6.out.warm (lst_len _ n).symm j
                  have fz := HOR6.out.warm (lst_len _ n).symm j
                  obtain ⟨G, hG⟩ : ∃ x', x' = gots q r n k j := ⟨_, rfl⟩
                  obtain ⟨Z, hZ⟩ : ∃ x', x' = lefts r n k j := ⟨_, rfl⟩
                  rw [← hG] at cx
                  rw [← hZ] at cz
                  have hGb : G ≤ 1125899906842625 := by
                    have h1 := HQL.out j hj
                    rw [hG]; unfold gots; split <;> omega
                  have hne2 : gr ≠ gp := fun e => HNE.out e.symm
                  have hne1 := HNE.out
                  have HNX : Hid (Own eI 3 gp ((wr.setCell ⟨gp, j, none⟩ (.int .i64 ((G + 1 : Nat) : Int))).setCell ⟨gr, j, none⟩ (.int .i64 (-1))) (.slice (some ⟨gp, 0, none⟩) n n) (lst (fun j => (gots q r n (k + 1) j : Int)) n)) := by
                    have h1 := HOP6.out.set (lst_len _ n).symm j ((G + 1 : Nat) : Int)
                    rw [lst_set (g := fun j => (gots q r n (k + 1) j : Int)) hj fun i hi => by
                      rw [gots_next hj HJ.out.2 hi]
                      by_cases h2 : i = j
                      · rw [if_pos h2, if_pos h2, h2, hG]
                      · rw [if_neg h2, if_neg h2]] at h1
                    exact h1.other (p := ⟨gr, j, none⟩) (by show some gp ≠ some gr; simpa using HNE.out) _
                  have HRX : Hid (Own eI 3 gp ((wr.setCell ⟨gp, j, none⟩ (.int .i64 ((G + 1 : Nat) : Int))).setCell ⟨gr, j, none⟩ (.int .i64 (-1))) (.slice (some ⟨gr, 0, none⟩) n n) (lst (lefts r n (k + 1)) n)) := by
                    have h1 := HOR6.out.other (p := ⟨gp, j, none⟩) (by show some gr ≠ some gp; simpa using hne2) (.int .i64 ((G + 1 : Nat) : Int))
                    have h2 := h1.set (lst_len _ n).symm j (-1)
                    rw [lst_set (g := lefts r n (k + 1)) hj fun i hi => lefts_next hj HJ.out.2 hi] at h2
                    exact h2
                  have HBX : Hid (Below gp w ((wr.setCell ⟨gp, j, none⟩ (.int .i64 ((G + 1 : Nat) : Int))).setCell ⟨gr, j, none⟩ (.int .i64 (-1)))) := below_set (below_set HB6.out (p := ⟨gp, j, none⟩) (Nat.le_refl _) _) (p := ⟨gr, j, none⟩) (HOR6.out.lt gr rfl).1 _
                  have i3 : (j : Int) < (n : Int) := by omega
                  have i4 : (0 : Int) ≤ (j : Int) := by omega
                  have hg1 : IntKind.i64.wrap ((G : Int) + 1) = ((G + 1 : Nat) : Int) := wrap_id (by omega)
                  clear hG hGb hj hi hge hZ hn6
                  go_wp2_with fail
                  go_roundw
                  case rel => exact ⟨k + 1, M1, rfl, HMM.out.1, HNX.out, HRX.out, HBX.out⟩
                  case measure =>
                    have := HMM.out
                    simp [RowKit.intOf]; omega
  · obtain ⟨E, hEE⟩ : ∃ E, E = errS t ws := ⟨_, rfl⟩
    have HRES : Hid (splL t ws = []) := if_neg hE
    have hE1 : ((E : Int) != 0) = true := by simp; omega
    have hE2 : ¬ E = 0 := by omega
    have hE3 : ¬ (E : Int) = 0 := by omega
    obtain ⟨D, hD⟩ : ∃ D, D = chV t ws := ⟨_, rfl⟩
    obtain ⟨n, hn⟩ : ∃ n, ws.length = n := ⟨_, rfl⟩
    rw [← hEE, ← hD, hn] at HDIV
    rw [← hEE, hn]
    clear hEE hD hS hl hn hE
    go_enter Try.func38, Try.ntmps38
    go_wp2_with fail
    refine HDIV.out.mono ?_
    rintro e w1 ⟨rfl, rfl⟩
    go_wp2_with fail
    go_ret2
    exact ⟨_, rfl, by rw [HRES.out]; exact Own.nil _ _ _ _, Below.refl _ _⟩
end Go.Proofs.Ytagjimdplmimoaa.Share
/- Same and Bounds of the reference. -/
namespace Go.Proofs.Ytagjimdplmimoaa.Share
open Go.ChangeShapes Go.WideShapes Go.RowKit Go.Lib Go.Proofs.Ytagjimdplmimoaa.Mem
set_option linter.unusedVariables false
set_option maxRecDepth 100000

set_option maxHeartbeats 800000 in
theorem same_ints (L M : List Int) (A B : Option Addr) (c d : Nat) (w : World) (ha : Cl eI w A L) (hb : Cl eI w B M) (hm : L.length ≤ 9223372036854775807) (hm2 : M.length ≤ 9223372036854775807) :
    Calls Try.prog 23 #[.slice A L.length c, .slice B M.length d] w fun e w' => e = .returned (.bool (decide (L = M))) ∧ Below w.heap.size w w' := by
  have HA := Lib.hid ha
  have HB := Lib.hid hb
  clear ha hb
  by_cases hl : L.length = M.length
  · have HL := Lib.hid hl
    have hl' : ((L.length : Int) == (M.length : Int)) = true := by simp [hl]
    have hl2 : ((L.length : Int) != (M.length : Int)) = false := by simp [hl]
    clear hl
    go_enter Try.func23, Try.ntmps23
    go_wp2_with fail
    go_loopw [5] (fun i wr => ∃ k : Nat, k ≤ L.length ∧ i = .int .i64 k ∧ (∀ j s t, j < k → L[j]? = some s → M[j]? = some t → s = t) ∧ Below w.heap.size w wr) (fun i _ => L.length - (RowKit.intOf i).toNat)
    case atStart => exact ⟨0, Nat.zero_le _, rfl, fun j s t h => absurd h (by omega), Below.refl _ _⟩
    case round =>
      obtain ⟨k, hk, rfl, hv, hbel⟩ := hrel
      have HV := Lib.hid hv
      have HW := Lib.hid hbel
      clear hv hbel
      rcases Nat.lt_or_ge k L.length with hlt | hge
      · have hlt2 : k < M.length := by have := HL.out; omega
        obtain ⟨s, hs⟩ := get_lt hlt
        obtain ⟨t, ht⟩ := get_lt hlt2
        obtain ⟨g1, off1, rfl, hb1, h0⟩ := HA.out.on HW.out k s hs
        obtain ⟨g2, off2, rfl, hb2, h2⟩ := HB.out.on HW.out k t ht
        have HS := Lib.hid hs
        have HT := Lib.hid ht
        have i1 : (k : Int) < (L.length : Int) := by omega
        have i2 : (0 : Int) ≤ (k : Int) := by omega
        have i3 : (k : Int) < (M.length : Int) := by omega
        clear hs ht
        by_cases e : s = t
        · subst e
          have hne : (s != s) = false := by simp
          go_wp2_with fail
          go_quiet (fail)
          go_wp2_with fail
          go_roundw
          case rel =>
            refine ⟨k + 1, by omega, by go_num, ?_, below_drewN HW.out _⟩
            intro j u v hj hu hv
            rcases Nat.lt_or_eq_of_le (Nat.le_of_lt_succ hj) with h | h
            · exact HV.out j u v h hu hv
            · subst h
              have e1 := HS.out
              have e2 := HT.out
              rw [hu] at e1; rw [hv] at e2; cases e1; cases e2; rfl
          case measure => simp [RowKit.intOf]; omega
        · have E : Hid (decide (L = M) = false) := decide_eq_false fun h => by
            subst h
            have e1 := HS.out
            rw [HT.out] at e1; exact e (Option.some.inj e1).symm
          have hne : (s != t) = true := by simp [e]
          have hne2 : (s == t) = false := by simp [e]
          clear e
          go_wp2_with fail
          go_quiet (fail)
          go_wp2_with fail
          go_ret
          exact ⟨ret_bool E.out.symm, below_drewN HW.out _⟩
      · obtain rfl : k = L.length := by omega
        have E : Hid (decide (L = M) = true) := decide_eq_true (by
          apply List.ext_getElem HL.out
          intro j h1 h2
          exact HV.out j _ _ h1 (List.getElem?_eq_getElem h1) (List.getElem?_eq_getElem h2))
        go_wp2_with fail
        go_ret
        exact ⟨ret_bool E.out.symm, HW.out⟩
  · have hl' : ((L.length : Int) == (M.length : Int)) = false := beq_false_of_ne (by omega)
    have hl2 : ((L.length : Int) != (M.length : Int)) = true := by simp; omega
    have E : Hid (decide (L = M) = false) := decide_eq_false fun h => hl (by rw [h])
    clear hl
    go_enter Try.func23, Try.ntmps23
    go_wp2_with fail
    go_ret
    exact ⟨ret_bool E.out.symm, Below.refl _ _⟩

end Go.Proofs.Ytagjimdplmimoaa.Share
/- Even of the program and of the reference. -/
namespace Go.Proofs.Ytagjimdplmimoaa.Share
open Go.ChangeShapes Go.WideShapes Go.RowKit Go.Lib Go.Proofs.Ytagjimdplmimoaa.Mem
set_option linter.unusedVariables false
set_option maxRecDepth 100000

theorem split_n (t : Int) (ws : List Int) (n : Nat) (hn : ws.length = n) (A : Option Addr) (c : Nat) (w : World) (hS : Cl eI w A ws) (hl : n ≤ 9223372036854775807) :
    Calls Try.prog 37 #[.int .i64 t, .slice A n c] w (ResL (splL t ws) (errS t ws) w) := by
  subst hn; exact share_split t ws A c w hS hl
theorem rsplit_n (t : Int) (ws : List Int) (n : Nat) (hn : ws.length = n) (A : Option Addr) (c : Nat) (w : World) (hS : Cl eI w A ws) (hl : n ≤ 9223372036854775807) :
    Calls Try.prog 38 #[.int .i64 t, .slice A n c] w (ResL (splL t ws) (errS t ws) w) := by
  subst hn; exact ref_split t ws A c w hS hl
theorem same_n (L M : List Int) (n m : Nat) (hn : L.length = n) (hm : M.length = m) (A B : Option Addr) (c d : Nat) (w : World) (ha : Cl eI w A L) (hb : Cl eI w B M) (h1 : n ≤ 9223372036854775807) (h2 : m ≤ 9223372036854775807) :
    Calls Try.prog 23 #[.slice A n c, .slice B m d] w fun e w' => e = .returned (.bool (decide (L = M))) ∧ Below w.heap.size w w' := by
  subst hn; subst hm; exact same_ints L M A B c d w ha hb h1 h2
theorem ResL.open_ {L : List Int} {E : Nat} {w : World} {e : Ending} {w' : World} (h : ResL L E w e w') : ∃ (A : Option Addr) (n c : Nat), e = .returned (.tuple #[.slice A n c, .int .i64 (E : Int)]) ∧ L.length = n ∧ n ≤ 9223372036854775807 ∧ Own eI 3 w.heap.size w' (.slice A n c) L ∧ Cl eI w' A L ∧ Below w.heap.size w w' := by
  obtain ⟨v, rfl, ho, hb⟩ := h
  obtain ⟨A, c, rfl, hl, hc⟩ := ho.inS.open_
  exact ⟨A, _, c, rfl, rfl, hl, ho, hc, hb⟩
theorem own_cl {α : Type} {enc : α → Value} {t : TypeId} {B n c : Nat} {w : World} {A : Option Addr} {L : List α} (h : Own enc t B w (.slice A n c) L) : Cl enc w A L := by
  obtain ⟨A2, c2, e, _, _, hc⟩ := h.inS
  exact (Value.slice.inj e).1 ▸ hc
/-- What Even returns. -/
def evE (t m : Int) : Nat := if m < 1 ∨ 512 < m then 1 else errS t (List.replicate m.toNat 1)
def evL (t m : Int) : List Int := if m < 1 ∨ 512 < m then [] else splL t (List.replicate m.toNat 1)
theorem ev_out {t m : Int} (h : m < 1 ∨ 512 < m) : evE t m = 1 ∧ evL t m = [] := ⟨if_pos h, if_pos h⟩
theorem ev_in {t : Int} {N : Nat} (h1 : 1 ≤ N) (h2 : N ≤ 512) : evE t (N : Int) = errS t (List.replicate N 1) ∧ evL t (N : Int) = splL t (List.replicate N 1) := by
  unfold evE evL
  rw [if_neg (by omega), if_neg (by omega), Int.toNat_natCast]
  exact ⟨rfl, rfl⟩
theorem ev_t {t : Int} {m : Int} (h : inW t = false) : evE t m = 1 ∧ evL t m = [] := by
  unfold evE evL
  by_cases hm : m < 1 ∨ 512 < m
  · rw [if_pos hm, if_pos hm]; exact ⟨rfl, rfl⟩
  · rw [if_neg hm, if_neg hm, errS_t h]
    refine ⟨rfl, ?_⟩
    unfold splL
    rw [errS_t h, if_neg (by omega)]

end Go.Proofs.Ytagjimdplmimoaa.Share
/- New, Rate, Same of the reference. -/
namespace Go.Proofs.Ytagjimdplmimoaa.Chest
open Go.ChangeShapes Go.WideShapes Go.RowKit Go.Lib
open Go.Proofs.Ytagjimdplmimoaa.Mem (Cl eI Own make_ints)
open Go.Proofs.Ytagjimdplmimoaa.Share (sumK sumK_zero sumK_succ one_made lst_zero same_n)
open Go.Proofs.Ytagjimdplmimoaa.Tank (MM inM inM_iff lisE lisE_no lisE_of lisE_mk lisE_cases lenI cl_at rr_Parts)
open Go.Proofs.Ytagjimdplmimoaa.Rw (glt get_lt ret_bool ret_int bstep below_drewN below_drew drew_below below_alloc)
set_option linter.unusedVariables false
set_option maxRecDepth 100000

theorem res_chest1 {fn : Func} {p : Tmp} (h : fn.results = #[.cell p 24]) {tmps : Array Value} {w : World} {g : Nat} {u0 u1 : Value} (hp : tmps.getD p undef = .pointer (some ⟨g, 0, none⟩))
    (hc : Rw.Cel w g [u0, u1]) : (results fn tmps).run Try.prog w = .ok (.agg #[u0, u1]) w := by
  have hp' : tmps[p]?.getD undef = .pointer (some ⟨g, 0, none⟩) := by simpa using hp
  obtain ⟨h0, h1⟩ := hc.two
  simp [results, h, hp', go_sem, h0, h1]
theorem res_chest2 {fn : Func} {p u : Tmp} (h : fn.results = #[.cell p 24, .tmp u]) {tmps : Array Value} {w : World} {g : Nat} {u0 u1 : Value} (hp : tmps.getD p undef = .pointer (some ⟨g, 0, none⟩))
    (hc : Rw.Cel w g [u0, u1]) : (results fn tmps).run Try.prog w = .ok (.tuple #[.agg #[u0, u1], tmps.getD u undef]) w := by
  have hp' : tmps[p]?.getD undef = .pointer (some ⟨g, 0, none⟩) := by simpa using hp
  obtain ⟨h0, h1⟩ := hc.two
  simp [results, h, hp', go_sem, h0, h1]
theorem res_chest3 {fn : Func} {p u v : Tmp} (h : fn.results = #[.cell p 24, .tmp u, .tmp v]) {tmps : Array Value} {w : World} {g : Nat} {u0 u1 : Value} (hp : tmps.getD p undef = .pointer (some ⟨g, 0, none⟩))
    (hc : Rw.Cel w g [u0, u1]) : (results fn tmps).run Try.prog w = .ok (.tuple #[.agg #[u0, u1], tmps.getD u undef, tmps.getD v undef]) w := by
  have hp' : tmps[p]?.getD undef = .pointer (some ⟨g, 0, none⟩) := by simpa using hp
  obtain ⟨h0, h1⟩ := hc.two
  simp [results, h, hp', go_sem, h0, h1]
theorem res_chests {fn : Func} {p q u : Tmp} (h : fn.results = #[.cell p 24, .cell q 24, .tmp u]) {tmps : Array Value} {w : World} {g k : Nat} {u0 u1 v0 v1 : Value} (hp : tmps.getD p undef = .pointer (some ⟨g, 0, none⟩)) (hq : tmps.getD q undef = .pointer (some ⟨k, 0, none⟩))
    (hc : Rw.Cel w g [u0, u1]) (hd : Rw.Cel w k [v0, v1]) : (results fn tmps).run Try.prog w = .ok (.tuple #[.agg #[u0, u1], .agg #[v0, v1], tmps.getD u undef]) w := by
  have hp' : tmps[p]?.getD undef = .pointer (some ⟨g, 0, none⟩) := by simpa using hp
  have hq' : tmps[q]?.getD undef = .pointer (some ⟨k, 0, none⟩) := by simpa using hq
  obtain ⟨h0, h1⟩ := hc.two
  obtain ⟨k0, k1⟩ := hd.two
  simp [results, h, hp', hq', go_sem, h0, h1, k0, k1]
theorem own_far2 {w : World} {t : TypeId} {B k : Nat} {v : Value} {L : List Int} (h : Own eI t B w v L) (hne : v.ownBlock ≠ some k) (x y : Value) : Own eI t B ((w.setCell ⟨k, 0, none⟩ x).setCell ⟨k, 1, none⟩ y) v L :=
  (h.other (p := ⟨k, 0, none⟩) hne x).other (p := ⟨k, 1, none⟩) hne y
/-- A chest of the call's own, and an error. -/
def CRes (w : World) (err cap : Int) (L : List Int) (e : Ending) (w' : World) : Prop :=
  ∃ A n c, e = .returned (.tuple #[.agg #[.int .i64 cap, .slice A n c], .int .i64 err]) ∧ L.length = n ∧ Own eI 3 w.heap.size w' (.slice A n c) L ∧ Below w.heap.size w w'
theorem CRes.none_ {w w' : World} {err : Int} (hb : Below w.heap.size w w') : CRes w err 0 [] (.returned (.tuple #[.agg #[.int .i64 0, .slice none 0 0], .int .i64 err])) w' := ⟨_, _, _, rfl, rfl, Own.nil _ _ _ _, hb⟩
def nwE (kinds cap : Int) : Int := if 1 ≤ kinds ∧ kinds ≤ 8 then if 1 ≤ cap ∧ cap ≤ MM then 0 else 1 else 17
def nwC (kinds cap : Int) : Int := if nwE kinds cap = 0 then cap else 0
def nwL (kinds cap : Int) : List Int := if nwE kinds cap = 0 then List.replicate kinds.toNat 0 else []
theorem nw_no {kinds cap : Int} (h : ¬ nwE kinds cap = 0) : nwC kinds cap = 0 ∧ nwL kinds cap = [] := ⟨if_neg h, if_neg h⟩
theorem nw_ok {kinds cap : Int} (h : nwE kinds cap = 0) : nwC kinds cap = cap ∧ nwL kinds cap = List.replicate kinds.toNat 0 := ⟨if_pos h, if_pos h⟩
set_option maxHeartbeats 800000 in
theorem cr_New (kinds cap : Int) (w : World) : Calls Try.prog 10 #[.int .i64 kinds, .int .i64 cap] w (CRes w (nwE kinds cap) (nwC kinds cap) (nwL kinds cap)) := by
  by_cases hk : 1 ≤ kinds ∧ kinds ≤ 8
  rotate_left
  · have he : nwE kinds cap = 17 := if_neg hk
    obtain ⟨e1, e2⟩ := nw_no (kinds := kinds) (cap := cap) (by rw [he]; decide)
    rw [he, e1, e2]
    clear he e1 e2
    rcases Int.lt_or_le kinds 1 with h0 | h0
    · have d0 : decide (kinds < 1) = true := decide_eq_true h0
      clear hk h0
      go_enter Try.func10, Try.ntmps10
      go_wp2_with fail
      exact bodyPost_ret (res_chest2 Try.results10 rfl (Rw.Cel.new w [.int .i64 0, .slice none 0 0] 24)) rfl (CRes.none_ (below_alloc _ _))
    · have d0 : decide (kinds < 1) = false := decide_eq_false (by omega)
      have d1 : decide (8 < kinds) = true := decide_eq_true (by omega)
      clear hk h0
      go_enter Try.func10, Try.ntmps10
      go_wp2_with fail
      exact bodyPost_ret (res_chest2 Try.results10 rfl (Rw.Cel.new w [.int .i64 0, .slice none 0 0] 24)) rfl (CRes.none_ (below_alloc _ _))
  have d0 : decide (kinds < 1) = false := decide_eq_false (by omega)
  have d1 : decide (8 < kinds) = false := decide_eq_false (by omega)
  have hMM : MM = 1099511627776 := rfl
  by_cases hc : 1 ≤ cap ∧ cap ≤ MM
  rotate_left
  · have he : nwE kinds cap = 1 := by unfold nwE; rw [if_pos hk, if_neg hc]
    obtain ⟨e1, e2⟩ := nw_no (kinds := kinds) (cap := cap) (by rw [he]; decide)
    rw [he, e1, e2]
    clear he e1 e2
    rcases Int.lt_or_le cap 1 with h0 | h0
    · have d2 : decide (cap < 1) = true := decide_eq_true h0
      clear hk hc h0
      go_enter Try.func10, Try.ntmps10
      go_wp2_with fail
      exact bodyPost_ret (res_chest2 Try.results10 rfl (Rw.Cel.new w [.int .i64 0, .slice none 0 0] 24)) rfl (CRes.none_ (below_alloc _ _))
    · have d2 : decide (cap < 1) = false := decide_eq_false (by omega)
      have d3 : decide (1099511627776 < cap) = true := decide_eq_true (by omega)
      clear hk hc h0
      go_enter Try.func10, Try.ntmps10
      go_wp2_with fail
      exact bodyPost_ret (res_chest2 Try.results10 rfl (Rw.Cel.new w [.int .i64 0, .slice none 0 0] 24)) rfl (CRes.none_ (below_alloc _ _))
  have d2 : decide (cap < 1) = false := decide_eq_false (by omega)
  have d3 : decide (1099511627776 < cap) = false := decide_eq_false (by omega)
  have he : nwE kinds cap = 0 := by unfold nwE; rw [if_pos hk, if_pos hc]
  obtain ⟨e1, e2⟩ := nw_ok he
  rw [he, e1, e2]
  obtain ⟨n, rfl⟩ : ∃ n : Nat, kinds = n := ⟨kinds.toNat, by omega⟩
  rw [Int.toNat_natCast]
  have hmk := fun W => make_ints n (by omega) W
  obtain ⟨w0, hw0⟩ : ∃ W, w.alloc (.cells #[.int .i64 0, .slice none 0 0] 24) = W := ⟨_, rfl⟩
  have C0 : Hid (Rw.Cel w0 w.heap.size [.int .i64 0, .slice none 0 0]) := hw0 ▸ Rw.Cel.new w [_, _] _
  have B0 : Hid (Below w.heap.size w w0) := hw0 ▸ below_alloc _ _
  have HO := Lib.hid (one_made w0 n (by omega))
  rw [← lst_zero] at HO
  have HG := Lib.hid C0.out.lt
  clear hk hc he e1 e2 hMM
  go_enter Try.func10, Try.ntmps10
  go_upto_region 1 with fail
  clear hw0
  obtain ⟨y0, y1⟩ := (C0.out.alloc (.cells (madeCells #[.int .i64 0] n) 3)).warm2
  obtain ⟨u0, u1⟩ := (C0.out.alloc (.cells (madeCells #[.int .i64 0] n) 3)).two
  go_wp2_with fail
  refine bodyPost_ret (res_chest2 Try.results10 rfl ((C0.out.alloc _).put2 _ _)) rfl ⟨_, _, _, rfl, List.length_replicate, ?_, Rw.below_put2 (bstep B0.out (below_alloc _ _)) (Nat.le_refl _) _ _⟩
  exact own_far2 (HO.out.less (Nat.le_of_lt HG.out)) (by have := HG.out; simp [Value.ownBlock]; omega) _ _

set_option maxHeartbeats 800000 in
theorem cr_Same (x y : Int) (L M : List Int) (A B : Option Addr) (n m c d : Nat) (hn : L.length = n) (hm : M.length = m) (w : World) (ha : Cl eI w A L) (hb : Cl eI w B M) (h1 : n ≤ 9223372036854775807) (h2 : m ≤ 9223372036854775807) :
    Calls Try.prog 11 #[.agg #[.int .i64 x, .slice A n c], .agg #[.int .i64 y, .slice B m d]] w fun e w' => e = .returned (.bool (decide (x = y ∧ L = M))) ∧ Below w.heap.size w w' := by
  have HK := Lib.hid fun (W : World) (hA : Cl eI W A L) (hB : Cl eI W B M) => same_n L M n m hn hm A B c d W hA hB h1 h2
  have HA := Lib.hid ha
  have HB := Lib.hid hb
  clear hn hm ha hb h1 h2
  by_cases hx : x = y
  · subst hx
    have d0 : (x == x) = true := by simp
    have he : decide (x = x ∧ L = M) = decide (L = M) := by simp
    rw [he]
    obtain ⟨p, hp⟩ : ∃ p, decide (L = M) = p := ⟨_, rfl⟩
    rw [hp] at HK ⊢
    clear he hp
    go_enter Try.func11, Try.ntmps11
    go_wp2_with fail
    have B0 := bstep (below_alloc w (.cells #[.int .i64 x, .slice A n c] 24)) (below_alloc _ (.cells #[.int .i64 x, .slice B m d] 24))
    refine (HK.out _ (HA.out.on B0) (HB.out.on B0)).mono ?_
    rintro e w1 ⟨rfl, hb1⟩
    have B1 := Lib.hid (bstep B0 hb1)
    clear hb1 B0
    go_wp2_with fail
    go_ret
    exact ⟨rfl, B1.out⟩
  · have d0 : (x == y) = false := beq_false_of_ne hx
    have he : decide (x = y ∧ L = M) = false := decide_eq_false fun h => hx h.1
    rw [he]
    clear he hx
    go_enter Try.func11, Try.ntmps11
    go_wp2_with fail
    go_ret
    exact ⟨rfl, bstep (below_alloc _ _) (below_alloc _ _)⟩

end Go.Proofs.Ytagjimdplmimoaa.Chest
/- Rows of integers; slices.Sort and slices.Compact at a row of the call's own. -/
namespace Go.Proofs.Ytagjimdplmimoaa.Rw
open Go.ChangeShapes Go.WideShapes Go.RowKit Go.Lib
set_option linter.unusedVariables false
set_option maxRecDepth 100000

/-! ### Sorted lists without repetition (pure) -/
def AscI (l : List Int) : Prop := l.Pairwise (· < ·)
theorem compact_uptoI {d : Array Int} (hs : ∀ i j : Nat, i ≤ j → j < d.size → d[i]! ≤ d[j]!) : ∀ m, m ≤ d.size →
    AscI (Lib.compactUpTo d m) ∧ (∀ x, x ∈ Lib.compactUpTo d m ↔ ∃ j, j < m ∧ d[j]! = x) := by
  intro m
  induction m with
  | zero => intro _; exact ⟨List.Pairwise.nil, fun x => ⟨fun h => by simp [Lib.compactUpTo] at h, fun ⟨j, h, _⟩ => by omega⟩⟩
  | succ m ih =>
    intro hm
    obtain ⟨h1, h2⟩ := ih (by omega)
    rw [Lib.compactUpTo_succ]
    cases hk : Lib.keeps d m with
    | true =>
      simp only [if_true]
      refine ⟨List.pairwise_append.mpr ⟨h1, List.pairwise_singleton _ _, fun x hx y hy => ?_⟩, fun x => ?_⟩
      · rw [List.mem_singleton] at hy
        subst hy
        obtain ⟨j, hj, rfl⟩ := (h2 x).mp hx
        have hne : d[m]! ≠ d[m - 1]! := by
          intro e
          rw [Lib.keeps_neg (by omega) e] at hk; cases hk
        have a1 := hs j (m - 1) (by omega) (by omega)
        have a2 := hs (m - 1) m (by omega) (by omega)
        omega
      · rw [List.mem_append, List.mem_singleton, h2]
        constructor
        · rintro (⟨j, hj, e⟩ | rfl)
          · exact ⟨j, by omega, e⟩
          · exact ⟨m, by omega, rfl⟩
        · rintro ⟨j, hj, e⟩
          rcases Nat.lt_or_eq_of_le (Nat.le_of_lt_succ hj) with h | rfl
          · exact Or.inl ⟨j, h, e⟩
          · exact Or.inr e.symm
    | false =>
      simp only [Bool.false_eq_true, if_false, List.append_nil]
      refine ⟨h1, fun x => ?_⟩
      rw [h2]
      have hmm : 0 < m ∧ d[m]! = d[m - 1]! := by
        unfold Lib.keeps at hk
        have := of_decide_eq_false hk
        constructor
        · rcases Nat.eq_zero_or_pos m with h | h
          · exact absurd (Or.inl h) this
          · exact h
        · rcases Decidable.em (d[m]! = d[m - 1]!) with h | h
          · exact h
          · exact absurd (Or.inr h) this
      constructor
      · rintro ⟨j, hj, e⟩
        exact ⟨j, by omega, e⟩
      · rintro ⟨j, hj, e⟩
        rcases Nat.lt_or_eq_of_le (Nat.le_of_lt_succ hj) with h | rfl
        · exact ⟨j, h, e⟩
        · exact ⟨j - 1, by omega, by rw [← hmm.2]; exact e⟩
/-- What slices.Sort and slices.Compact make of a list. -/
def srtI (l : List Int) : List Int := l.mergeSort fun x y => decide (x ≤ y)
theorem srtI_len (l : List Int) : (srtI l).length = l.length := by unfold srtI; exact List.length_mergeSort l
theorem srtI_mem {l : List Int} {x : Int} : x ∈ srtI l ↔ x ∈ l := by unfold srtI; exact List.mem_mergeSort
theorem srtI_le (l : List Int) : (srtI l).Pairwise (· ≤ ·) := by
  have := List.pairwise_mergeSort (le := fun x y : Int => decide (x ≤ y)) (by intro a b c; simp only [decide_eq_true_eq]; omega) (by intro a b; simp only [Bool.or_eq_true, decide_eq_true_eq]; omega) l
  unfold srtI
  exact this.imp fun h => by simpa using h
def nubI (l : List Int) : List Int := Lib.compact (srtI l)
theorem nubI_is (l : List Int) : AscI (nubI l) ∧ ∀ x, x ∈ nubI l ↔ x ∈ l := by
  have hs : ∀ i j : Nat, i ≤ j → j < (srtI l).toArray.size → (srtI l).toArray[i]! ≤ (srtI l).toArray[j]! := by
    intro i j hij hj
    have hj' : j < (srtI l).length := by simpa using hj
    rw [getElem!_pos _ i (by simp; omega), getElem!_pos _ j (by simpa using hj)]
    simp only [List.getElem_toArray]
    rcases Nat.lt_or_eq_of_le hij with h | rfl
    · exact List.pairwise_iff_getElem.mp (srtI_le l) i j (by omega) hj' h
    · exact Int.le_refl _
  have := compact_uptoI hs (srtI l).length (by simp)
  unfold nubI Lib.compact
  refine ⟨this.1, fun x => ?_⟩
  rw [this.2, ← srtI_mem (l := l), List.mem_iff_getElem]
  constructor
  · rintro ⟨j, hj, e⟩
    rw [getElem!_pos _ j (by simpa using hj)] at e
    exact ⟨j, hj, by simpa using e⟩
  · rintro ⟨j, hj, e⟩
    refine ⟨j, hj, ?_⟩
    rw [getElem!_pos _ j (by simpa using hj)]
    simpa using e
theorem compact_leI (l : List Int) : (Lib.compact l).length ≤ l.length := by
  unfold Lib.compact Lib.compactUpTo
  rw [List.length_map]
  exact Nat.le_trans (List.length_filter_le _ _) (by simp)

/-! ### Rows of integers -/
abbrev cI (x : Int) : List Value := [.int .i64 x]
def eI (x : Int) : Value := .int .i64 x
theorem cI_len (x : Int) : (cI x).length = 1 := rfl
theorem info_i : (Try.prog.info? 3).map (fun i => (i.zero, i.size, i.bytes)) = some (some (.int .i64 0), 1, 8) := by kernel_rfl
theorem info_partsI {P : Program} {t : TypeId} {z : Value} {s y : Nat} (h : (P.info? t).map (fun i => (i.zero, i.size, i.bytes)) = some (some z, s, y)) : ∃ i, P.info? t = some i ∧ i.zero = some z ∧ i.size = s ∧ i.bytes = y := by
  cases hi : P.info? t with
  | none => rw [hi] at h; cases h
  | some i =>
    rw [hi] at h
    have h2 := Option.some.inj h
    exact ⟨i, rfl, congrArg (·.1) h2, congrArg (·.2.1) h2, congrArg (·.2.2) h2⟩
theorem kdI : Kd cI 1 22 3 := by
  obtain ⟨i, h1, h2, h3, h4⟩ := info_partsI info_i
  exact ⟨Try.underlying22, ⟨i, _, _, h1, h2, h3, rfl, rfl, by rw [h4]; decide⟩, cI_len, by decide, fun z u hu => by
    simp at hu
    subst hu; rfl⟩
theorem flat_cI (L : List Int) : L.flatMap cI = L.map eI := by
  induction L with
  | nil => rfl
  | cons x L ih => rw [List.flatMap_cons, ih]; rfl
theorem row_nilI {B : Nat} {w : World} {L : List Int} (h : Row cI 1 3 B w (.slice none 0 0) L) : L = [] := by
  obtain ⟨A, c, e, _⟩ := h.one cI_len
  have := (Value.slice.inj e).2.1
  exact List.eq_nil_of_length_eq_zero this.symm
/-- The elements of a literal. -/
theorem rd_lit {α : Type} {cs : α → List Value} {s : Nat} (hc : ∀ z, (cs z).length = s) {w : World} {g : Nat} {ty : TypeId} {L : List α} (h : w.heap[g]? = some (.cells (L.flatMap cs).toArray ty (0, 0))) : Rd cs s w (some ⟨g, 0, none⟩) L := by
  intro k z hz
  refine ⟨g, 0, rfl, (Array.getElem?_eq_some_iff.mp h).1, fun j u hu => ?_⟩
  rw [cell_of_row _ _ _ _ _ _ h, Nat.zero_add]
  have := flat_at hc hz hu
  simpa using this
end Go.Proofs.Ytagjimdplmimoaa.Rw
/- plus of the reference. -/
namespace Go.Proofs.Ytagjimdplmimoaa.Chest
open Go.ChangeShapes Go.WideShapes Go.RowKit Go.Lib
open Go.Proofs.Ytagjimdplmimoaa.Mem (Cl eI Own)
open Go.Proofs.Ytagjimdplmimoaa.Tank (MM cl_at)
open Go.Proofs.Ytagjimdplmimoaa.Rw (Rd Kd glt get_lt ret_bool ret_int bstep below_drewN below_drew drew_below below_alloc cI cI_len kdI flat_cI rd_one step_rows take_snoc_of)
set_option linter.unusedVariables false
set_option maxRecDepth 100000

theorem own_row {L : List Int} {B : Nat} {w : World} {v : Value} (h : Rw.Row cI 1 3 B w v L) : Own eI 3 B w v L := by
  unfold Rw.Row at h
  rw [flat_cI] at h
  exact h
theorem plus_at {L m : List Int} {k : Nat} {x y : Int} (hx : L[k]? = some x) (hy : m[k]? = some y) : (plusL L m)[k]? = some (x + y) := by
  unfold plusL; rw [List.getElem?_zipWith, hx, hy]
theorem less_at {L m : List Int} {k : Nat} {x y : Int} (hx : L[k]? = some x) (hy : m[k]? = some y) : (lessL L m)[k]? = some (x - y) := by
  unfold lessL; rw [List.getElem?_zipWith, hx, hy]
theorem plus_len {L m : List Int} (h : m.length = L.length) : (plusL L m).length = L.length := by unfold plusL; rw [List.length_zipWith, h]; exact Nat.min_self _
theorem less_len {L m : List Int} (h : m.length = L.length) : (lessL L m).length = L.length := by unfold lessL; rw [List.length_zipWith, h]; exact Nat.min_self _
theorem own_len {B : Nat} {w : World} {A : Option Addr} {n c : Nat} {L : List Int} (h : Own eI 3 B w (.slice A n c) L) : L.length = n := by
  obtain ⟨A', c', he, -⟩ := h.inS
  cases he; rfl
/-- A chest of the call's own. -/
def COne (w : World) (cap : Int) (L : List Int) (e : Ending) (w' : World) : Prop :=
  ∃ A n c, e = .returned (.agg #[.int .i64 cap, .slice A n c]) ∧ L.length = n ∧ Own eI 3 w.heap.size w' (.slice A n c) L ∧ Below w.heap.size w w'
set_option maxHeartbeats 3200000 in
theorem cr_plus (cap : Int) (L m : List Int) (A M : Option Addr) (n c n' c' : Nat) (hn : L.length = n) (hn' : m.length = n) (hnn : n' = n) (h8 : n ≤ 8) (hL : ∀ z ∈ L, 0 ≤ z ∧ z ≤ MM) (hm : ∀ z ∈ m, 0 ≤ z ∧ z ≤ MM) (w : World) (ha : Cl eI w A L) (hb : Cl eI w M m) :
    Calls Try.prog 36 #[.agg #[.int .i64 cap, .slice A n c], .slice M n' c'] w (COne w cap (plusL L m)) := by
  subst hnn
  have HA := Lib.hid ha
  have HB := Lib.hid hb
  have HN := Lib.hid (And.intro hn hn')
  have HL := Lib.hid (And.intro hL hm)
  have H8 := Lib.hid h8
  have HPL := Lib.hid (plus_len (hn'.trans hn.symm))
  clear ha hb hn hn' hL hm
  go_enter Try.func36, Try.ntmps36
  go_upto_region 1 with fail
  obtain ⟨w0, hw0⟩ : ∃ W, w.alloc (.cells #[.int .i64 cap, .slice A n' c] 24) = W := ⟨_, rfl⟩
  have C0 : Hid (Rw.Cel w0 w.heap.size [.int .i64 cap, .slice A n' c]) := hw0 ▸ Rw.Cel.new w [_, _] _
  have B0 : Hid (Below w.heap.size w w0) := hw0 ▸ below_alloc _ _
  have S0 : Hid (w0.heap.size = w.heap.size + 1) := Lib.hid (by rw [← hw0]; simp)
  rw [hw0]
  clear hw0
  obtain ⟨w1, hw1⟩ : ∃ W, w0.alloc (.cells #[.int .i64 0, .slice none 0 0] 24) = W := ⟨_, rfl⟩
  have D1 : Hid (Rw.Cel w1 (w.heap.size + 1) [.int .i64 0, .slice none 0 0]) := by
    refine Lib.hid ?_
    rw [← hw1, ← S0.out]; exact Rw.Cel.new w0 [_, _] _
  have C1 : Hid (Rw.Cel w1 w.heap.size [.int .i64 cap, .slice A n' c]) := hw1 ▸ C0.out.alloc _
  have B1 : Hid (Below w.heap.size w w1) := Lib.hid (bstep B0.out (hw1 ▸ below_alloc _ _))
  have S1 : Hid (w1.heap.size = w.heap.size + 2) := Lib.hid (by rw [← hw1]; simp [S0.out])
  rw [hw1]
  clear hw1 C0 B0 S0
  go_wp2_with fail
  go_loopw [5, 6] (fun v i wr => ∃ (k : Nat) (A' : Option Addr) (n5 c5 : Nat), k ≤ n' ∧ i = .int .i64 k ∧ v = .slice A' n5 c5 ∧ Rw.Row cI 1 3 w1.heap.size wr (.slice A' n5 c5) ((plusL L m).take k) ∧ Below w1.heap.size w1 wr) (fun _ i _ => n' - (RowKit.intOf i).toNat)
  case atStart => exact ⟨0, none, 0, 0, Nat.zero_le _, rfl, rfl, Rw.Row.nil _ _ _ _ _, Below.refl _ _⟩
  case round =>
    obtain ⟨k, A', n5, c5, hk, rfl, rfl, hrow, hbel⟩ := hrel
    have HR := Lib.hid hrow
    have HW := Lib.hid hbel
    clear hrow hbel
    obtain ⟨z0, z1⟩ := (C1.out.on HW.out).two
    rcases Nat.lt_or_ge k n' with hlt | hge
    · obtain ⟨x, hx⟩ := get_lt (L := L) (k := k) (by have := HN.out.1; omega)
      obtain ⟨y, hy⟩ := get_lt (L := m) (k := k) (by have := HN.out.2; omega)
      obtain ⟨b1, o1, hA0, hb1, h0⟩ := cl_at (HA.out.on B1.out) hx
      obtain ⟨b2, o2, hB0, hb2, h3⟩ := cl_at (HB.out.on B1.out) hy
      subst hA0
      subst hB0
      have hxl := HL.out.1 x (List.mem_of_getElem? hx)
      have hyl := HL.out.2 y (List.mem_of_getElem? hy)
      have hM : MM = 1099511627776 := rfl
      have i1 : (k : Int) < (n' : Int) := by omega
      have i2 : (0 : Int) ≤ (k : Int) := by omega
      obtain ⟨s, hs⟩ : ∃ s, x + y = s := ⟨_, rfl⟩
      have ws : IntKind.i64.wrap s = s := Rw.wrap_id (by omega)
      have HTn : Hid ((plusL L m).take (k + 1) = (plusL L m).take k ++ [s]) := Lib.hid (by rw [take_snoc_of (plus_at hx hy), hs])
      have HSl : Hid (((plusL L m).take k).length + 1 ≤ 1000000) := Lib.hid (by have := List.length_take_le k (plusL L m); have := H8.out; omega)
      have HF : Hid (∀ W, Below w1.heap.size w1 W → (W.cell? ⟨b1, o1 + k, none⟩ = some (.int .i64 x) ∧ W.cell? ⟨b2, o2 + k, none⟩ = some (.int .i64 y)) ∧ W.cell? ⟨w.heap.size, 1, none⟩ = some (.slice (some ⟨b1, o1, none⟩) n' c)) := fun W h =>
        ⟨⟨(h.cell (p := ⟨b1, o1 + k, none⟩) hb1).trans h0, (h.cell (p := ⟨b2, o2 + k, none⟩) hb2).trans h3⟩, (C1.out.on h).two.2⟩
      have HXl : Hid (∀ W : World, W.heap.size = wr.heap.size → ∀ ty, Rd cI 1 (W.alloc (.cells #[.int .i64 s] ty)) (some ⟨wr.heap.size, 0, none⟩) [s]) := fun W hW ty => rd_one cI_len (by rw [← hW]; exact heap_alloc_new _ _)
      clear hx hy h0 h3 hxl hyl hM hb1 hb2
      go_wp2_with fail
      clear z0 z1
      go_region_held3 (fun W => (W.cell? ⟨b1, o1 + k, none⟩ = some (.int .i64 x) ∧ W.cell? ⟨b2, o2 + k, none⟩ = some (.int .i64 y)) ∧ W.cell? ⟨w.heap.size, 1, none⟩ = some (.slice (some ⟨b1, o1, none⟩) n' c))
        (first | exact HF.out _ HW.out | exact HF.out _ (HW.out.trans ((drew_below _).less HW.out.size)) | exact HF.out _ (bstep HW.out (drew_below _)) | exact HF.out _ (bstep HW.out (below_drew (below_alloc _ _))) | exact HF.out _ (bstep HW.out (bstep (drew_below _) (below_alloc _ _))) | exact HF.out _ (HW.out.trans (HR.out.below HG5.out HW.out.size)))
        ((refine step_rows kdI wr rfl (.tmp 14) (.tmp 25) rfl (.slice A' n5 c5) ((plusL L m).take k) (by simp [Act.eval]) HR.out (by first | exact below_alloc _ _ | exact below_drew (below_alloc _ _) | exact bstep (drew_below _) (below_alloc _ _)) (some ⟨wr.heap.size, 0, none⟩) 1 1 [s] rfl (by simp [Act.eval]) (by first | exact HXl.out _ rfl _) HSl.out HW.out.size ?_; intro A5 n5 c5 w5 hn5 hr5 hk5 hg5 hat5; have HN5 := Lib.hid hn5; have HR5 := Lib.hid hr5; have HG5 := Lib.hid hg5; clear hn5 hr5 hk5 hg5 hat5))
      all_goals
        have HB5 : Hid (Below w1.heap.size w1 w5) := HW.out.trans (HR.out.below HG5.out HW.out.size)
        have HR6 : Hid (Rw.Row cI 1 3 w1.heap.size w5 (.slice A5 n5 c5) ((plusL L m).take (k + 1))) := Lib.hid (by rw [HTn.out]; exact HR5.out)
        go_wp2_with fail
        go_roundw
        case rel => exact ⟨k + 1, A5, n5, c5, by omega, by go_num, rfl, HR6.out, HB5.out⟩
        case measure => simp [RowKit.intOf]; omega
    · obtain rfl : k = n' := by omega
      have HO : Hid (Own eI 3 w1.heap.size wr (.slice A' n5 c5) (plusL L m)) := Lib.hid (by
        have h1 := own_row HR.out
        rw [List.take_of_length_le (by rw [HPL.out, HN.out.1]; exact Nat.le_refl _)] at h1
        exact h1)
      obtain ⟨u0, u1⟩ := (D1.out.on HW.out).two
      obtain ⟨v0, v1⟩ := (D1.out.on HW.out).warm2
      go_wp2_with fail
      refine bodyPost_ret (res_chest1 Try.results36 rfl ((D1.out.on HW.out).put2 _ _)) rfl ⟨_, _, _, rfl, own_len HO.out, own_far2 (HO.out.less (by rw [S1.out]; omega)) (fun e => ?_) _ _, Rw.below_put2 (bstep B1.out HW.out) (Nat.le_succ _) _ _⟩
      have h1 := (HO.out.lt _ e).1
      have h2 := S1.out
      omega
end Go.Proofs.Ytagjimdplmimoaa.Chest
