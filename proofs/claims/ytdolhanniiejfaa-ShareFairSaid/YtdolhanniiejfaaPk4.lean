/- Several texts in one: ShareI, ShareJ, ShareK, ShareL, ShareM, ShareN, ShareO, NatA. -/
import Derived.Test.YtdolhanniiejfaaPk3
import Derived.Test.YtdolhanniiejfaaPk1
import Derived.Test.YtdolhanniiejfaaRows
import Derived.WalkKit
import Derived.Lib.Hide
import Derived.WalkLawsBesides
import Derived.WalkSpells
import Derived.Outline
import Derived.Laws.OwnMore
import Derived.OwnWalk
/- Split of the reference. -/
namespace Go.Proofs.Ytdolhanniiejfaa.Share
open Go.ChangeShapes Go.WideShapes Go.RowKit Go.Lib Go.Proofs.Ytdolhanniiejfaa.Mem
set_option linter.unusedVariables false
set_option maxRecDepth 100000

theorem lefts_lo (r : Nat → Nat) (n k i : Nat) : -1 ≤ lefts r n k i := by
  unfold lefts; split <;> omega
theorem partsL_zero {t : Int} {ws : List Int} (h : Share.tw (wf ws) ws.length = 0) : partsL t ws = lst (fun _ => 0) ws.length := by
  unfold partsL lst
  exact List.map_congr_left fun i _ => by unfold part; rw [if_pos h]; rfl
theorem bndsL_zero {t : Int} {ws : List Int} (h : Share.tw (wf ws) ws.length = 0) : bndsL t ws = lst (fun _ => 0) ws.length := by
  unfold bndsL lst
  exact List.map_congr_left fun i _ => by unfold bnd; rw [if_pos h]; rfl

set_option maxHeartbeats 3200000 in
theorem ref_split (t : Int) (ws : List Int) (A : Option Addr) (c : Nat) (w : World) (hS : Cl eI w A ws) (hl : ws.length ≤ 9223372036854775807) :
    Calls Try.prog 12 #[.int .i64 t, .slice A ws.length c] w (ResL (splL t ws) (errS t ws) w) := by
  have HDIV := Lib.hid (ref_check t ws A c w hS hl)
  by_cases hE : errS t ws = 0
  · have ok := Ok.of hE
    obtain ⟨T, hT⟩ : ∃ T : Nat, T = t.toNat := ⟨_, rfl⟩
    have ht : t = (T : Int) := by have := ok.t0; omega
    have hTm : T ≤ 1125899906842624 := by have h1 := ok.t1; have hm : mx = 1125899906842624 := rfl; omega
    have HRES : Hid (splL t ws = partsL t ws) := if_pos hE
    have hW : chV t ws = (Share.tw (wf ws) ws.length : Int) := by unfold chV; rw [if_pos hE]; exact ok.twI.symm
    have hW1 : Share.tw (wf ws) ws.length ≤ 1125899906842624 := by have h1 := ok.sum; have h2 := ok.twI; have hm : mx = 1125899906842624 := rfl; omega
    rw [hW, hE] at HDIV
    have HLN : Hid (ws.length ≤ 512 ∧ 0 < ws.length) := ⟨ok.n1, ok.n0⟩
    have HTM := Lib.hid hTm
    rcases Nat.eq_zero_or_pos (Share.tw (wf ws) ws.length) with hz | hz
    · have HFIN := Lib.hid (partsL_zero (t := t) hz)
      rw [hz] at HDIV
      obtain ⟨n, hn⟩ : ∃ n, ws.length = n := ⟨_, rfl⟩
      have HTT := Lib.hid ht
      rw [hn] at HDIV HFIN HLN hl ⊢
      rw [hE]
      rw [ht] at HDIV ⊢
      have hn5 := HLN.out.1
      have hmk := fun W => make_ints n (by omega) W
      have hz0 : ((0 : Nat) : Int) = 0 := rfl
      rw [hz0] at HDIV
      clear hS hW hW1 ok hT ht hE hn hl hz hTm hz0
      go_enter Try.func12, Try.ntmps12
      go_wp2_with fail
      refine HDIV.out.mono ?_
      rintro e w1 ⟨rfl, rfl⟩
      go_upto_region 5 with fail
      have HOP0 := Lib.hid (one_made w n (by omega))
      have HBC0 := Lib.hid (below_alloc w (zeros n))
      obtain ⟨w2, hw2⟩ : ∃ W, w.alloc (zeros n) = W := ⟨_, rfl⟩
      have HOF : Hid (Own eI 3 w.heap.size w2 (.slice (some ⟨w.heap.size, 0, none⟩) n n) (splL t ws)) := by
        rw [HRES.out, HFIN.out, ← hw2]; exact HOP0.out
      have HBF : Hid (Below w.heap.size w w2) := hw2 ▸ HBC0.out
      rw [hw2]
      clear hw2 HOP0 HBC0 hmk
      go_wp2_with fail
      go_ret2
      exact ⟨_, rfl, by rw [← HTT.out]; exact HOF.out, HBF.out⟩
    · have HRK := Lib.hid (show ∀ k b, k < ws.length → FM (lefts (rst t.toNat (wf ws) ws.length) ws.length k) ws.length b → b < ws.length ∧ rank (rst t.toNat (wf ws) ws.length) ws.length b = k from fun k b hk h => ⟨h.1, lefts_best hk h⟩)
      obtain ⟨W, hWW⟩ : ∃ W, W = Share.tw (wf ws) ws.length := ⟨_, rfl⟩
      obtain ⟨q, hq⟩ : ∃ q, q = quo t.toNat (wf ws) ws.length := ⟨_, rfl⟩
      obtain ⟨r, hr⟩ : ∃ r, r = rst t.toNat (wf ws) ws.length := ⟨_, rfl⟩
      obtain ⟨L, hL⟩ : ∃ L, L = lft t.toNat (wf ws) ws.length := ⟨_, rfl⟩
      have HFIN : Hid (lst (fun j => (gots q r ws.length L j : Int)) ws.length = partsL t ws) := by
        show _ = _
        unfold partsL lst
        exact List.map_congr_left fun i hi => by rw [hq, hr, hL, ok.gots (List.mem_range.mp hi)]
      have HLL : Hid (L ≤ ws.length) := hL ▸ ok.lft_le
      have HSUM : Hid (∀ k, k ≤ ws.length → sm q k ≤ T) := fun k hk => by rw [hq, hT]; exact ok.quo_sum hk
      have HLQ : Hid (L = T - sm q ws.length) := by show L = _; rw [hL, hq, hT]; rfl
      have HDV := Lib.hid (show ∀ i, i < ws.length → ∀ W', Calls Try.prog 27 #[.int .i64 (wf ws i : Int), .int .i64 (T : Int), .int .i64 (W : Int)] W' fun e w' => e = .returned (.tuple #[.int .i64 (q i : Int), .int .i64 (r i : Int)]) ∧ W' = w' from fun i hi W' => by
        have h1 := ref_divide (a := wf ws i) (b := T) (c := W) (by rw [hWW]; exact ok.w_le hi) (by omega) (by omega) hTm W'
        have h2 : wf ws i * T / W = q i := by rw [hq, hWW, Nat.mul_comm, hT]; rfl
        have h3 : wf ws i * T % W = r i := by rw [hr, hWW, Nat.mul_comm, hT]; rfl
        rw [h2, h3] at h1
        exact h1)
      have HQL : Hid (∀ i, i < ws.length → q i ≤ 1125899906842624) := fun i hi => by rw [hq]; exact Nat.le_trans (quo_le hi) (by omega)
      have HWF : Hid (∀ (i : Nat) z, ws[i]? = some z → z = (wf ws i : Int)) := fun i z hz => (wf_at hz (ok.all z (List.mem_of_getElem? hz)).1).symm
      have HS := Lib.hid hS
      rw [← hr] at HRK
      rw [← hWW] at HDIV hz
      obtain ⟨n, hn⟩ : ∃ n, ws.length = n := ⟨_, rfl⟩
      have HN := Lib.hid hn
      have HTT := Lib.hid ht
      rw [hn] at HDIV HFIN HLN HLL HSUM HLQ HDV HQL HRK hl ⊢
      rw [hE]
      rw [ht] at HDIV ⊢
      have hn5 := HLN.out.1
      have hmk := fun W => make_ints n (by omega) W
      have hz1 : ¬ W = 0 := by omega
      have hz2 : ((W : Int) == 0) = false := by simp; omega
      clear hS hW hW1 ok hT ht hq hr hL hE hn hl hWW hTm hz
      go_enter Try.func12, Try.ntmps12
      go_wp2_with fail
      refine HDIV.out.mono ?_
      rintro e w1 ⟨rfl, rfl⟩
      go_upto_region 9 with fail
      have HM1 := Lib.hid (one_made w n (by omega))
      have HM2 := Lib.hid (one_made (w.alloc (zeros n)) n (by omega))
      have hsz : (w.alloc (zeros n)).heap.size = w.heap.size + 1 := by simp
      obtain ⟨w2, hw2⟩ : ∃ W, (w.alloc (zeros n)).alloc (zeros n) = W := ⟨_, rfl⟩
      obtain ⟨gp, hgp⟩ : ∃ g, w.heap.size = g := ⟨_, rfl⟩
      obtain ⟨gr, hgr⟩ : ∃ g, gp + 1 = g := ⟨_, rfl⟩
      rw [hsz] at HM2
      have HOP : Hid (Own eI 3 gp w2 (.slice (some ⟨gp, 0, none⟩) n n) (lst (fun _ => 0) n)) := hgp ▸ hw2 ▸ HM1.out.alloc _
      have HOR : Hid (Own eI 3 gp w2 (.slice (some ⟨gr, 0, none⟩) n n) (lst (fun _ => 0) n)) := by
        have h1 := HM2.out.less (B' := w.heap.size) (by omega)
        rw [hw2, hgp, hgr] at h1
        exact h1
      have HBC : Hid (Below gp w w2) := by
        have h1 := bstep (below_alloc w (zeros n)) (below_alloc _ (zeros n))
        rw [hw2, hgp] at h1
        exact h1
      have HNE : Hid (gp ≠ gr) := (by omega : gp ≠ gr)
      have HGP := Lib.hid hgp
      rw [hw2, hgp, hgr]
      clear hw2 hgp hgr hsz hmk HM1 HM2
      go_wp2_with fail
      go_loopw [9, 11] (fun l x wr => ∃ k M : Nat, l = .int .i64 (M : Int) ∧ x = .int .i64 (k : Int) ∧ k ≤ n ∧ M = T - sm q k ∧ Own eI 3 gp wr (.slice (some ⟨gp, 0, none⟩) n n) (upL q k n) ∧ Own eI 3 gp wr (.slice (some ⟨gr, 0, none⟩) n n) (upL r k n) ∧ Below gp w wr) (fun _ x _ => n - (RowKit.intOf x).toNat)
      case atStart => exact ⟨0, T, rfl, rfl, Nat.zero_le _, rfl, by rw [upL_zero]; exact HOP.out, by rw [upL_zero]; exact HOR.out, HBC.out⟩
      case round =>
        obtain ⟨k, M, rfl, rfl, hk, hM, hop, hor, hbel⟩ := hrel
        have HOP2 := Lib.hid hop
        have HOR2 := Lib.hid hor
        have HB := Lib.hid hbel
        have HM := Lib.hid hM
        clear hop hor hbel hM
        rcases Nat.lt_or_ge k n with hlt | hge
        · obtain ⟨z, hz⟩ := get_lt (L := ws) (k := k) (by rw [HN.out]; exact hlt)
          obtain ⟨b, off, hA, hb, hcell⟩ := (HS.out.on (by rw [HGP.out]; exact HB.out)) k z hz
          obtain rfl := hA
          obtain rfl := HWF.out k z hz
          have HZ := Lib.hid hz
          have HCALL := Lib.hid (HDV.out k hlt wr)
          obtain ⟨x, hx⟩ : ∃ x, x = wf ws k := ⟨_, rfl⟩
          obtain ⟨Q, hQ⟩ : ∃ x, x = q k := ⟨_, rfl⟩
          obtain ⟨R, hR⟩ : ∃ x, x = r k := ⟨_, rfl⟩
          rw [← hx] at hcell HCALL
          rw [← hQ, ← hR] at HCALL
          have HQR := Lib.hid (show Q = q k ∧ R = r k from ⟨hQ, hR⟩)
          have i1 : (k : Int) < (n : Int) := by omega
          have i2 : (0 : Int) ≤ (k : Int) := by omega
          have hk1 : IntKind.i64.wrap ((k : Int) + 1) = ((k + 1 : Nat) : Int) := wrap_id (by omega)
          clear hz hx hQ hR hb hk
          go_wp2_with fail
          refine HCALL.out.mono ?_
          rintro e w3 ⟨rfl, rfl⟩
          have cp := HOP2.out.cell (upL_at q hlt)
          have cr := HOR2.out.cell (upL_at r hlt)
          have fp := HOP2.out.warm (upL_len q k n).symm k
          have fr := HOR2.out.warm (upL_len r k n).symm k
          have hne1 := HNE.out
          have hne2 : gr ≠ gp := fun e => HNE.out e.symm
          have HPP : Hid (Own eI 3 gp ((wr.setCell ⟨gp, k, none⟩ (.int .i64 (Q : Int))).setCell ⟨gr, k, none⟩ (.int .i64 (R : Int))) (.slice (some ⟨gp, 0, none⟩) n n) (upL q (k + 1) n)) := by
            have h1 := HOP2.out.set (upL_len q k n).symm k (Q : Int)
            rw [HQR.out.1, upL_set q hlt] at h1
            rw [HQR.out.1]
            exact h1.other (p := ⟨gr, k, none⟩) (by show some gp ≠ some gr; simpa using HNE.out) _
          have HRR : Hid (Own eI 3 gp ((wr.setCell ⟨gp, k, none⟩ (.int .i64 (Q : Int))).setCell ⟨gr, k, none⟩ (.int .i64 (R : Int))) (.slice (some ⟨gr, 0, none⟩) n n) (upL r (k + 1) n)) := by
            have h1 := HOR2.out.other (p := ⟨gp, k, none⟩) (by show some gr ≠ some gp; simpa using hne2) (.int .i64 (Q : Int))
            have h2 := h1.set (upL_len r k n).symm k (R : Int)
            rw [HQR.out.2, upL_set r hlt] at h2
            rw [HQR.out.2]
            exact h2
          have HBB : Hid (Below gp w ((wr.setCell ⟨gp, k, none⟩ (.int .i64 (Q : Int))).setCell ⟨gr, k, none⟩ (.int .i64 (R : Int)))) := below_set (below_set HB.out (p := ⟨gp, k, none⟩) (Nat.le_refl _) _) (p := ⟨gr, k, none⟩) (HOR2.out.lt gr rfl).1 _
          have HSK := Lib.hid (show sm q (k + 1) ≤ T ∧ sm q (k + 1) = sm q k + Q by
            refine ⟨HSUM.out _ hlt, by rw [HQR.out.1]; rfl⟩)
          obtain ⟨M', hM'⟩ : ∃ x, x = M - Q := ⟨_, rfl⟩
          have HMM := Lib.hid (show M' = T - sm q (k + 1) ∧ Q ≤ M ∧ M' = M - Q by have := HM.out; have := HSK.out; omega)
          have HQB : Hid (Q ≤ 1125899906842624) := HQR.out.1 ▸ HQL.out k hlt
          have hwm : IntKind.i64.wrap ((M : Int) - (Q : Int)) = (M' : Int) := by
            have h1 := HMM.out
            have h2 := HQB.out
            by_cases h3 : M ≤ 1125899906842624
            · rw [wrap_id (by omega)]; omega
            · have h4 := HM.out
              have h5 := HTM.out
              omega
          have HLT := Lib.hid hlt
          clear hM' hlt
          go_wp2_with fail
          go_roundw
          case rel => exact ⟨k + 1, M', rfl, rfl, HLT.out, HMM.out.1, HPP.out, HRR.out, HBB.out⟩
          case measure =>
            have := HLT.out
            simp [RowKit.intOf]; omega
        · obtain rfl : n = k := by omega
          obtain rfl : L = M := by have h1 := HM.out; have h2 := HLQ.out; omega
          have HOP4 : Hid (Own eI 3 gp wr (.slice (some ⟨gp, 0, none⟩) n n) (lst (fun j => (gots q r n 0 j : Int)) n)) := by
            have h1 := HOP2.out
            rw [upL_all] at h1
            rw [lst_congr (g := fun j => (q j : Int)) fun i _ => by rw [gots_zero]]
            exact h1
          have HOR4 : Hid (Own eI 3 gp wr (.slice (some ⟨gr, 0, none⟩) n n) (lst (lefts r n 0) n)) := by
            have h1 := HOR2.out
            rw [upL_all] at h1
            rw [lst_congr (g := fun j => (r j : Int)) fun i _ => lefts_zero r n i]
            exact h1
          clear hk hge
          go_wp2_with fail
          go_loopw [9, 12, 13] (fun l _ _ wr' => ∃ k M : Nat, l = .int .i64 (M : Int) ∧ k + M = L ∧ Own eI 3 gp wr' (.slice (some ⟨gp, 0, none⟩) n n) (lst (fun j => (gots q r n k j : Int)) n) ∧ Own eI 3 gp wr' (.slice (some ⟨gr, 0, none⟩) n n) (lst (lefts r n k) n) ∧ Below gp w wr') (fun l _ _ _ => (RowKit.intOf l).toNat)
          case atStart => exact ⟨0, L, rfl, by omega, HOP4.out, HOR4.out, HB.out⟩
          case round =>
            obtain ⟨k, M, rfl, hkM, hop, hor, hbel⟩ := hrel
            have HOP5 := Lib.hid hop
            have HOR5 := Lib.hid hor
            have HB5 := Lib.hid hbel
            have HKM := Lib.hid hkM
            have hLn := HLL.out
            clear hop hor hbel
            rcases Nat.eq_zero_or_pos M with rfl | hpos
            · obtain rfl : k = L := by omega
              have HOF : Hid (Own eI 3 w.heap.size wr (.slice (some ⟨gp, 0, none⟩) n n) (splL t ws)) := by
                rw [HRES.out, ← HFIN.out, HGP.out]
                exact HOP5.out
              have HBF : Hid (Below w.heap.size w wr) := HGP.out.symm ▸ HB5.out
              clear hkM hLn
              go_wp2_with fail
              go_ret2
              exact ⟨_, rfl, by rw [← HTT.out]; exact HOF.out, HBF.out⟩
            · have HKN : Hid (k < n) := (by omega : k < n)
              have f1 : 0 < M := hpos
              obtain ⟨M1, hM1⟩ : ∃ x, x = M - 1 := ⟨_, rfl⟩
              have hwm : IntKind.i64.wrap ((M : Int) - 1) = (M1 : Int) := by rw [wrap_id (by omega)]; omega
              have HMM := Lib.hid (show k + 1 + M1 = L ∧ M1 < M by omega)
              clear hkM hLn hpos hM1
              go_wp2_with fail
              go_loopw [12, 13] (fun b x wr2 => ∃ i j : Nat, b = .int .i64 (j : Int) ∧ x = .int .i64 (i : Int) ∧ i ≤ n ∧ FM (lefts r n k) i j ∧ Own eI 3 gp wr2 (.slice (some ⟨gp, 0, none⟩) n n) (lst (fun j => (gots q r n k j : Int)) n) ∧ Own eI 3 gp wr2 (.slice (some ⟨gr, 0, none⟩) n n) (lst (lefts r n k) n) ∧ Below gp w wr2) (fun _ x _ => n - (RowKit.intOf x).toNat)
              case atStart => exact ⟨1, 0, rfl, rfl, by have := HKN.out; omega, FM.start _, HOP5.out, HOR5.out, HB5.out⟩
              case round =>
                obtain ⟨i, j, rfl, rfl, hi, hfm, hop, hor, hbel⟩ := hrel
                have HOP6 := Lib.hid hop
                have HOR6 := Lib.hid hor
                have HB6 := Lib.hid hbel
                have HFM := Lib.hid hfm
                have hn6 := hn5
                clear hop hor hbel hfm
                rcases Nat.lt_or_ge i n with hlt | hge
                · have ci := HOR6.out.cell (lst_at (lefts r n k) hlt)
                  have cj := HOR6.out.cell (lst_at (lefts r n k) (show j < n from Nat.lt_trans HFM.out.1 hlt))
                  obtain ⟨x, hx⟩ : ∃ x, x = lefts r n k i := ⟨_, rfl⟩
                  obtain ⟨y, hy⟩ : ∃ y, y = lefts r n k j := ⟨_, rfl⟩
                  rw [← hx] at ci
                  rw [← hy] at cj
                  have hji := HFM.out.1
                  have i1 : (i : Int) < (n : Int) := by omega
                  have i2 : (0 : Int) ≤ (i : Int) := by omega
                  have i3 : (j : Int) < (n : Int) := by omega
                  have i4 : (0 : Int) ≤ (j : Int) := by omega
                  have hk1 : IntKind.i64.wrap ((i : Int) + 1) = ((i + 1 : Nat) : Int) := wrap_id (by omega)
                  have HLT := Lib.hid hlt
                  rcases Int.lt_or_le y x with hc | hc
                  · have HFN : Hid (FM (lefts r n k) (i + 1) i) := HFM.out.new (by rw [← hx, ← hy]; exact hc)
                    clear hx hy hji hi hlt hn6
                    go_wp2_with fail
                    go_quiet (fail)
                    go_wp2_with fail
                    go_roundw
                    case rel => exact ⟨i + 1, i, rfl, rfl, HLT.out, HFN.out, HOP6.out.drewN _, HOR6.out.drewN _, below_drewN HB6.out _⟩
                    case measure =>
                      have := HLT.out
                      simp [RowKit.intOf]; omega
                  · have HFN : Hid (FM (lefts r n k) (i + 1) j) := HFM.out.old (by rw [← hx, ← hy]; exact hc)
                    have hc2 : ¬ y < x := by omega
                    clear hx hy hji hi hlt hc hn6
                    go_wp2_with fail
                    go_quiet (fail)
                    go_wp2_with fail
                    go_roundw
                    case rel => exact ⟨i + 1, j, rfl, rfl, HLT.out, HFN.out, HOP6.out.drewN _, HOR6.out.drewN _, below_drewN HB6.out _⟩
                    case measure =>
                      have := HLT.out
                      simp [RowKit.intOf]; omega
                · obtain rfl : n = i := by omega
                  have HJ := Lib.hid (HRK.out k j HKN.out HFM.out)
                  have hj := HJ.out.1
                  have cx := HOP6.out.cell (lst_at (fun j => (gots q r n k j : Int)) hj)
                  have cz := HOR6.out.cell (lst_at (lefts r n k) hj)
                  have fx := HOP6.out.warm (lst_len _ n).symm j
                  have fz := HOR6.out.warm (lst_len _ n).symm j
                  obtain ⟨G, hG⟩ : ∃ x', x' = gots q r n k j := ⟨_, rfl⟩
                  obtain ⟨Z, hZ⟩ : ∃ x', x' = lefts r n k j := ⟨_, rfl⟩
                  rw [← hG] at cx
                  rw [← hZ] at cz
                  have hGb : G ≤ 1125899906842625 := by
                    have h1 := HQL.out j hj
                    rw [hG]; unfold gots; split <;> omega
                  have hne2 : gr ≠ gp := fun e => HNE.out e.symm
                  have hne1 := HNE.out
                  have HNX : Hid (Own eI 3 gp ((wr.setCell ⟨gp, j, none⟩ (.int .i64 ((G + 1 : Nat) : Int))).setCell ⟨gr, j, none⟩ (.int .i64 (-1))) (.slice (some ⟨gp, 0, none⟩) n n) (lst (fun j => (gots q r n (k + 1) j : Int)) n)) := by
                    have h1 := HOP6.out.set (lst_len _ n).symm j ((G + 1 : Nat) : Int)
                    rw [lst_set (g := fun j => (gots q r n (k + 1) j : Int)) hj fun i hi => by
                      rw [gots_next hj HJ.out.2 hi]
                      by_cases h2 : i = j
                      · rw [if_pos h2, if_pos h2, h2, hG]
                      · rw [if_neg h2, if_neg h2]] at h1
                    exact h1.other (p := ⟨gr, j, none⟩) (by show some gp ≠ some gr; simpa using HNE.out) _
                  have HRX : Hid (Own eI 3 gp ((wr.setCell ⟨gp, j, none⟩ (.int .i64 ((G + 1 : Nat) : Int))).setCell ⟨gr, j, none⟩ (.int .i64 (-1))) (.slice (some ⟨gr, 0, none⟩) n n) (lst (lefts r n (k + 1)) n)) := by
                    have h1 := HOR6.out.other (p := ⟨gp, j, none⟩) (by show some gr ≠ some gp; simpa using hne2) (.int .i64 ((G + 1 : Nat) : Int))
                    have h2 := h1.set (lst_len _ n).symm j (-1)
                    rw [lst_set (g := lefts r n (k + 1)) hj fun i hi => lefts_next hj HJ.out.2 hi] at h2
                    exact h2
                  have HBX : Hid (Below gp w ((wr.setCell ⟨gp, j, none⟩ (.int .i64 ((G + 1 : Nat) : Int))).setCell ⟨gr, j, none⟩ (.int .i64 (-1)))) := below_set (below_set HB6.out (p := ⟨gp, j, none⟩) (Nat.le_refl _) _) (p := ⟨gr, j, none⟩) (HOR6.out.lt gr rfl).1 _
                  have i3 : (j : Int) < (n : Int) := by omega
                  have i4 : (0 : Int) ≤ (j : Int) := by omega
                  have hg1 : IntKind.i64.wrap ((G : Int) + 1) = ((G + 1 : Nat) : Int) := wrap_id (by omega)
                  clear hG hGb hj hi hge hZ hn6
                  go_wp2_with fail
                  go_roundw
                  case rel => exact ⟨k + 1, M1, rfl, HMM.out.1, HNX.out, HRX.out, HBX.out⟩
                  case measure =>
                    have := HMM.out
                    simp [RowKit.intOf]; omega
  · obtain ⟨E, hEE⟩ : ∃ E, E = errS t ws := ⟨_, rfl⟩
    have HRES : Hid (splL t ws = []) := if_neg hE
    have hE1 : ((E : Int) != 0) = true := by simp; omega
    have hE2 : ¬ E = 0 := by omega
    have hE3 : ¬ (E : Int) = 0 := by omega
    obtain ⟨D, hD⟩ : ∃ D, D = chV t ws := ⟨_, rfl⟩
    obtain ⟨n, hn⟩ : ∃ n, ws.length = n := ⟨_, rfl⟩
    rw [← hEE, ← hD, hn] at HDIV
    rw [← hEE, hn]
    clear hEE hD hS hl hn hE
    go_enter Try.func12, Try.ntmps12
    go_wp2_with fail
    refine HDIV.out.mono ?_
    rintro e w1 ⟨rfl, rfl⟩
    go_wp2_with fail
    go_ret2
    exact ⟨_, rfl, by rw [HRES.out]; exact Own.nil _ _ _ _, Below.refl _ _⟩
end Go.Proofs.Ytdolhanniiejfaa.Share
/- Same and Bounds of the reference. -/
namespace Go.Proofs.Ytdolhanniiejfaa.Share
open Go.ChangeShapes Go.WideShapes Go.RowKit Go.Lib Go.Proofs.Ytdolhanniiejfaa.Mem
set_option linter.unusedVariables false
set_option maxRecDepth 100000

set_option maxHeartbeats 800000 in
theorem same_ints (L M : List Int) (A B : Option Addr) (c d : Nat) (w : World) (ha : Cl eI w A L) (hb : Cl eI w B M) (hm : L.length ≤ 9223372036854775807) (hm2 : M.length ≤ 9223372036854775807) :
    Calls Try.prog 15 #[.slice A L.length c, .slice B M.length d] w fun e w' => e = .returned (.bool (decide (L = M))) ∧ Below w.heap.size w w' := by
  have HA := Lib.hid ha
  have HB := Lib.hid hb
  clear ha hb
  by_cases hl : L.length = M.length
  · have HL := Lib.hid hl
    have hl' : ((L.length : Int) == (M.length : Int)) = true := by simp [hl]
    have hl2 : ((L.length : Int) != (M.length : Int)) = false := by simp [hl]
    clear hl
    go_enter Try.func15, Try.ntmps15
    go_wp2_with fail
    go_loopw [5] (fun i wr => ∃ k : Nat, k ≤ L.length ∧ i = .int .i64 k ∧ (∀ j s t, j < k → L[j]? = some s → M[j]? = some t → s = t) ∧ Below w.heap.size w wr) (fun i _ => L.length - (RowKit.intOf i).toNat)
    case atStart => exact ⟨0, Nat.zero_le _, rfl, fun j s t h => absurd h (by omega), Below.refl _ _⟩
    case round =>
      obtain ⟨k, hk, rfl, hv, hbel⟩ := hrel
      have HV := Lib.hid hv
      have HW := Lib.hid hbel
      clear hv hbel
      rcases Nat.lt_or_ge k L.length with hlt | hge
      · have hlt2 : k < M.length := by have := HL.out; omega
        obtain ⟨s, hs⟩ := get_lt hlt
        obtain ⟨t, ht⟩ := get_lt hlt2
        obtain ⟨g1, off1, rfl, hb1, h0⟩ := HA.out.on HW.out k s hs
        obtain ⟨g2, off2, rfl, hb2, h2⟩ := HB.out.on HW.out k t ht
        have HS := Lib.hid hs
        have HT := Lib.hid ht
        have i1 : (k : Int) < (L.length : Int) := by omega
        have i2 : (0 : Int) ≤ (k : Int) := by omega
        have i3 : (k : Int) < (M.length : Int) := by omega
        clear hs ht
        by_cases e : s = t
        · subst e
          have hne : (s != s) = false := by simp
          go_wp2_with fail
          go_quiet (fail)
          go_wp2_with fail
          go_roundw
          case rel =>
            refine ⟨k + 1, by omega, by go_num, ?_, below_drewN HW.out _⟩
            intro j u v hj hu hv
            rcases Nat.lt_or_eq_of_le (Nat.le_of_lt_succ hj) with h | h
            · exact HV.out j u v h hu hv
            · subst h
              have e1 := HS.out
              have e2 := HT.out
              rw [hu] at e1; rw [hv] at e2; cases e1; cases e2; rfl
          case measure => simp [RowKit.intOf]; omega
        · have E : Hid (decide (L = M) = false) := decide_eq_false fun h => by
            subst h
            have e1 := HS.out
            rw [HT.out] at e1; exact e (Option.some.inj e1).symm
          have hne : (s != t) = true := by simp [e]
          have hne2 : (s == t) = false := by simp [e]
          clear e
          go_wp2_with fail
          go_quiet (fail)
          go_wp2_with fail
          go_ret
          exact ⟨ret_bool E.out.symm, below_drewN HW.out _⟩
      · obtain rfl : k = L.length := by omega
        have E : Hid (decide (L = M) = true) := decide_eq_true (by
          apply List.ext_getElem HL.out
          intro j h1 h2
          exact HV.out j _ _ h1 (List.getElem?_eq_getElem h1) (List.getElem?_eq_getElem h2))
        go_wp2_with fail
        go_ret
        exact ⟨ret_bool E.out.symm, HW.out⟩
  · have hl' : ((L.length : Int) == (M.length : Int)) = false := beq_false_of_ne (by omega)
    have hl2 : ((L.length : Int) != (M.length : Int)) = true := by simp; omega
    have E : Hid (decide (L = M) = false) := decide_eq_false fun h => hl (by rw [h])
    clear hl
    go_enter Try.func15, Try.ntmps15
    go_wp2_with fail
    go_ret
    exact ⟨ret_bool E.out.symm, Below.refl _ _⟩

set_option maxHeartbeats 3200000 in
theorem ref_bounds (t : Int) (ws : List Int) (A : Option Addr) (c : Nat) (w : World) (hS : Cl eI w A ws) (hl : ws.length ≤ 9223372036854775807) :
    Calls Try.prog 14 #[.int .i64 t, .slice A ws.length c] w (ResL (bouL t ws) (errS t ws) w) := by
  have HDIV := Lib.hid (ref_check t ws A c w hS hl)
  by_cases hE : errS t ws = 0
  · have ok := Ok.of hE
    obtain ⟨T, hT⟩ : ∃ T : Nat, T = t.toNat := ⟨_, rfl⟩
    have ht : t = (T : Int) := by have := ok.t0; omega
    have hTm : T ≤ 1125899906842624 := by have h1 := ok.t1; have hm : mx = 1125899906842624 := rfl; omega
    have HRES : Hid (bouL t ws = bndsL t ws) := if_pos hE
    have hW : chV t ws = (Share.tw (wf ws) ws.length : Int) := by unfold chV; rw [if_pos hE]; exact ok.twI.symm
    have hW1 : Share.tw (wf ws) ws.length ≤ 1125899906842624 := by have h1 := ok.sum; have h2 := ok.twI; have hm : mx = 1125899906842624 := rfl; omega
    rw [hW, hE] at HDIV
    have HLN : Hid (ws.length ≤ 512 ∧ 0 < ws.length) := ⟨ok.n1, ok.n0⟩
    rcases Nat.eq_zero_or_pos (Share.tw (wf ws) ws.length) with hz | hz
    · have HFIN := Lib.hid (bndsL_zero (t := t) hz)
      rw [hz] at HDIV
      obtain ⟨n, hn⟩ : ∃ n, ws.length = n := ⟨_, rfl⟩
      have HTT := Lib.hid ht
      rw [hn] at HDIV HFIN HLN hl ⊢
      rw [hE]
      rw [ht] at HDIV ⊢
      have hn5 := HLN.out.1
      have hn6 : (0 : Int) < (n : Int) := by have := HLN.out.2; omega
      have hn7 : 0 < n := HLN.out.2
      have hmk := fun W => make_ints n (by omega) W
      have hz0 : ((0 : Nat) : Int) = 0 := rfl
      rw [hz0] at HDIV
      clear hS hW hW1 ok hT ht hE hn hl hz hTm hz0
      go_enter Try.func14, Try.ntmps14
      go_wp2_with fail
      refine HDIV.out.mono ?_
      rintro e w1 ⟨rfl, rfl⟩
      go_upto_region 5 with fail
      have HOP0 := Lib.hid (one_made w n (by omega))
      have HBC0 := Lib.hid (below_alloc w (zeros n))
      obtain ⟨w2, hw2⟩ : ∃ W, w.alloc (zeros n) = W := ⟨_, rfl⟩
      have HOF : Hid (Own eI 3 w.heap.size w2 (.slice (some ⟨w.heap.size, 0, none⟩) n n) (bouL t ws)) := by
        rw [HRES.out, HFIN.out, ← hw2]; exact HOP0.out
      have HBF : Hid (Below w.heap.size w w2) := hw2 ▸ HBC0.out
      rw [hw2]
      clear hw2 HOP0 HBC0 hmk
      go_wp2_with fail
      go_loopw [9, 10] (fun l x wr => l = .int .i64 0 ∧ x = .int .i64 0 ∧ wr = w2) (fun _ _ _ => 0)
      case atStart => exact ⟨rfl, rfl, rfl⟩
      case round =>
        obtain ⟨rfl, rfl, rfl⟩ := hrel
        go_wp2_with fail
        go_ret2
        exact ⟨_, rfl, by rw [← HTT.out]; exact HOF.out, HBF.out⟩
    · obtain ⟨W, hWW⟩ : ∃ W, W = Share.tw (wf ws) ws.length := ⟨_, rfl⟩
      obtain ⟨q, hq⟩ : ∃ q, q = bnd t.toNat (wf ws) ws.length := ⟨_, rfl⟩
      obtain ⟨y, hy⟩ : ∃ y, y = sm (wf ws) := ⟨_, rfl⟩
      have hsW : ∀ i, i < ws.length → y (i + 1) ≤ W := fun i hi => by rw [hy, hWW]; exact sm_mono (by omega)
      have HFIN : Hid (lst (fun j => (q j : Int)) ws.length = bndsL t ws) := by show _ = _; rw [hq]; rfl
      have HDV := Lib.hid (show ∀ i, i < ws.length → ∀ W', Calls Try.prog 27 #[.int .i64 (y (i + 1) : Int), .int .i64 (T : Int), .int .i64 (W : Int)] W' fun e w' => (∃ r : Int, e = .returned (.tuple #[.int .i64 (q i : Int), .int .i64 r])) ∧ W' = w' from fun i hi W' => by
        have h1 := ref_divide (a := y (i + 1)) (b := T) (c := W) (hsW i hi) (by omega) (by omega) hTm W'
        have h2 : y (i + 1) * T / W = q i := by
          rw [hq, hWW, Nat.mul_comm, hT, hy]
          unfold bnd
          rw [if_neg (by omega)]
        rw [h2] at h1
        exact h1.mono fun e w' h => ⟨⟨_, h.1⟩, h.2⟩)
      have HY : Hid (∀ i, i < ws.length → y (i + 1) = y i + wf ws i ∧ y (i + 1) ≤ 1125899906842624) := fun i hi => ⟨by rw [hy]; rfl, Nat.le_trans (hsW i hi) (by omega)⟩
      have HY0 : Hid (y 0 = 0) := (by rw [hy]; rfl : y 0 = 0)
      have HWF : Hid (∀ (i : Nat) z, ws[i]? = some z → z = (wf ws i : Int)) := fun i z hz => (wf_at hz (ok.all z (List.mem_of_getElem? hz)).1).symm
      have HS := Lib.hid hS
      rw [← hWW] at HDIV hz
      obtain ⟨n, hn⟩ : ∃ n, ws.length = n := ⟨_, rfl⟩
      have HN := Lib.hid hn
      have HTT := Lib.hid ht
      rw [hn] at HDIV HFIN HLN HDV HY hl ⊢
      rw [hE]
      rw [ht] at HDIV ⊢
      have hn5 := HLN.out.1
      have hmk := fun W => make_ints n (by omega) W
      have hz1 : 0 < W := hz
      clear hS hW hW1 hsW ok hT ht hq hy hE hn hl hWW hTm hz
      go_enter Try.func14, Try.ntmps14
      go_wp2_with fail
      refine HDIV.out.mono ?_
      rintro e w1 ⟨rfl, rfl⟩
      go_upto_region 5 with fail
      have HOP0 := Lib.hid (one_made w n (by omega))
      have HBC0 := Lib.hid (below_alloc w (zeros n))
      obtain ⟨w2, hw2⟩ : ∃ W, w.alloc (zeros n) = W := ⟨_, rfl⟩
      obtain ⟨gp, hgp⟩ : ∃ g, w.heap.size = g := ⟨_, rfl⟩
      have HGP := Lib.hid hgp
      have HBC : Hid (Below gp w w2) := hgp ▸ hw2 ▸ HBC0.out
      have HOP : Hid (Own eI 3 gp w2 (.slice (some ⟨gp, 0, none⟩) n n) (lst (fun _ => 0) n)) := hgp ▸ hw2 ▸ HOP0.out
      rw [hw2, hgp]
      clear hw2 hgp hmk HOP0 HBC0
      go_wp2_with fail
      go_loopw [9, 10] (fun l x wr => ∃ k : Nat, l = .int .i64 (y k : Int) ∧ x = .int .i64 (k : Int) ∧ k ≤ n ∧ Own eI 3 gp wr (.slice (some ⟨gp, 0, none⟩) n n) (upL q k n) ∧ Below gp w wr) (fun _ x _ => n - (RowKit.intOf x).toNat)
      case atStart => exact ⟨0, by rw [HY0.out]; rfl, rfl, Nat.zero_le _, by rw [upL_zero]; exact HOP.out, HBC.out⟩
      case round =>
        obtain ⟨k, rfl, rfl, hk, hop, hbel⟩ := hrel
        have HOP2 := Lib.hid hop
        have HB := Lib.hid hbel
        clear hop hbel
        rcases Nat.lt_or_ge k n with hlt | hge
        · obtain ⟨z, hz⟩ := get_lt (L := ws) (k := k) (by rw [HN.out]; exact hlt)
          obtain ⟨b, off, hA, hb, hcell⟩ := (HS.out.on (by rw [HGP.out]; exact HB.out)) k z hz
          obtain rfl := hA
          obtain rfl := HWF.out k z hz
          have HCALL := Lib.hid (HDV.out k hlt wr)
          have hyk := HY.out k hlt
          obtain ⟨x, hx⟩ : ∃ x, x = wf ws k := ⟨_, rfl⟩
          obtain ⟨Y, hY⟩ : ∃ x, x = y k := ⟨_, rfl⟩
          obtain ⟨Y', hY'⟩ : ∃ x, x = y (k + 1) := ⟨_, rfl⟩
          obtain ⟨Q, hQ⟩ : ∃ x, x = q k := ⟨_, rfl⟩
          rw [← hx] at hcell
          rw [← hQ, ← hY'] at HCALL
          rw [← hY, ← hY', ← hx] at hyk
          rw [← hY]
          have HYK := Lib.hid (show Y' = y (k + 1) from hY')
          have HQR := Lib.hid (show Q = q k from hQ)
          have i1 : (k : Int) < (n : Int) := by omega
          have i2 : (0 : Int) ≤ (k : Int) := by omega
          have i3 : k < n := hlt
          have hk1 : IntKind.i64.wrap ((k : Int) + 1) = ((k + 1 : Nat) : Int) := wrap_id (by omega)
          have hy1 : IntKind.i64.wrap ((Y : Int) + (x : Int)) = (Y' : Int) := by rw [wrap_id (by omega)]; omega
          have HLT := Lib.hid hlt
          clear hz hx hQ hb hk hyk hY hY' hlt
          go_wp2_with fail
          refine HCALL.out.mono ?_
          rintro e w3 ⟨⟨r, rfl⟩, rfl⟩
          have cp := HOP2.out.cell (upL_at q HLT.out)
          have fp := HOP2.out.warm (upL_len q k n).symm k
          have HPP : Hid (Own eI 3 gp (wr.setCell ⟨gp, k, none⟩ (.int .i64 (Q : Int))) (.slice (some ⟨gp, 0, none⟩) n n) (upL q (k + 1) n)) := by
            have h1 := HOP2.out.set (upL_len q k n).symm k (Q : Int)
            rw [HQR.out, upL_set q HLT.out] at h1
            rw [HQR.out]
            exact h1
          have HBB : Hid (Below gp w (wr.setCell ⟨gp, k, none⟩ (.int .i64 (Q : Int)))) := below_set HB.out (p := ⟨gp, k, none⟩) (Nat.le_refl _) _
          go_wp2_with fail
          go_roundw
          case rel => exact ⟨k + 1, by rw [HYK.out], rfl, HLT.out, HPP.out, HBB.out⟩
          case measure =>
            have := HLT.out
            simp [RowKit.intOf]; omega
        · obtain rfl : n = k := by omega
          have HOF : Hid (Own eI 3 w.heap.size wr (.slice (some ⟨gp, 0, none⟩) n n) (bouL t ws)) := by
            rw [HRES.out, ← HFIN.out, ← upL_all, HGP.out]
            exact HOP2.out
          have HBF : Hid (Below w.heap.size w wr) := HGP.out.symm ▸ HB.out
          clear hk hge
          go_wp2_with fail
          go_ret2
          exact ⟨_, rfl, by rw [← HTT.out]; exact HOF.out, HBF.out⟩
  · obtain ⟨E, hEE⟩ : ∃ E, E = errS t ws := ⟨_, rfl⟩
    have HRES : Hid (bouL t ws = []) := if_neg hE
    have hE1 : ((E : Int) != 0) = true := by simp; omega
    have hE2 : ¬ E = 0 := by omega
    have hE3 : ¬ (E : Int) = 0 := by omega
    obtain ⟨D, hD⟩ : ∃ D, D = chV t ws := ⟨_, rfl⟩
    obtain ⟨n, hn⟩ : ∃ n, ws.length = n := ⟨_, rfl⟩
    rw [← hEE, ← hD, hn] at HDIV
    rw [← hEE, hn]
    clear hEE hD hS hl hn hE
    go_enter Try.func14, Try.ntmps14
    go_wp2_with fail
    refine HDIV.out.mono ?_
    rintro e w1 ⟨rfl, rfl⟩
    go_wp2_with fail
    go_ret2
    exact ⟨_, rfl, by rw [HRES.out]; exact Own.nil _ _ _ _, Below.refl _ _⟩
end Go.Proofs.Ytdolhanniiejfaa.Share
/- Even of the program and of the reference. -/
namespace Go.Proofs.Ytdolhanniiejfaa.Share
open Go.ChangeShapes Go.WideShapes Go.RowKit Go.Lib Go.Proofs.Ytdolhanniiejfaa.Mem
set_option linter.unusedVariables false
set_option maxRecDepth 100000

theorem split_n (t : Int) (ws : List Int) (n : Nat) (hn : ws.length = n) (A : Option Addr) (c : Nat) (w : World) (hS : Cl eI w A ws) (hl : n ≤ 9223372036854775807) :
    Calls Try.prog 11 #[.int .i64 t, .slice A n c] w (ResL (splL t ws) (errS t ws) w) := by
  subst hn; exact share_split t ws A c w hS hl
theorem rsplit_n (t : Int) (ws : List Int) (n : Nat) (hn : ws.length = n) (A : Option Addr) (c : Nat) (w : World) (hS : Cl eI w A ws) (hl : n ≤ 9223372036854775807) :
    Calls Try.prog 12 #[.int .i64 t, .slice A n c] w (ResL (splL t ws) (errS t ws) w) := by
  subst hn; exact ref_split t ws A c w hS hl
theorem bounds_n (t : Int) (ws : List Int) (n : Nat) (hn : ws.length = n) (A : Option Addr) (c : Nat) (w : World) (hS : Cl eI w A ws) (hl : n ≤ 9223372036854775807) :
    Calls Try.prog 13 #[.int .i64 t, .slice A n c] w (ResL (bouL t ws) (errS t ws) w) := by
  subst hn; exact share_bounds t ws A c w hS hl
theorem rbounds_n (t : Int) (ws : List Int) (n : Nat) (hn : ws.length = n) (A : Option Addr) (c : Nat) (w : World) (hS : Cl eI w A ws) (hl : n ≤ 9223372036854775807) :
    Calls Try.prog 14 #[.int .i64 t, .slice A n c] w (ResL (bouL t ws) (errS t ws) w) := by
  subst hn; exact ref_bounds t ws A c w hS hl
theorem same_n (L M : List Int) (n m : Nat) (hn : L.length = n) (hm : M.length = m) (A B : Option Addr) (c d : Nat) (w : World) (ha : Cl eI w A L) (hb : Cl eI w B M) (h1 : n ≤ 9223372036854775807) (h2 : m ≤ 9223372036854775807) :
    Calls Try.prog 15 #[.slice A n c, .slice B m d] w fun e w' => e = .returned (.bool (decide (L = M))) ∧ Below w.heap.size w w' := by
  subst hn; subst hm; exact same_ints L M A B c d w ha hb h1 h2
theorem ResL.open_ {L : List Int} {E : Nat} {w : World} {e : Ending} {w' : World} (h : ResL L E w e w') : ∃ (A : Option Addr) (n c : Nat), e = .returned (.tuple #[.slice A n c, .int .i64 (E : Int)]) ∧ L.length = n ∧ n ≤ 9223372036854775807 ∧ Own eI 3 w.heap.size w' (.slice A n c) L ∧ Cl eI w' A L ∧ Below w.heap.size w w' := by
  obtain ⟨v, rfl, ho, hb⟩ := h
  obtain ⟨A, c, rfl, hl, hc⟩ := ho.inS.open_
  exact ⟨A, _, c, rfl, rfl, hl, ho, hc, hb⟩
theorem own_cl {α : Type} {enc : α → Value} {t : TypeId} {B n c : Nat} {w : World} {A : Option Addr} {L : List α} (h : Own enc t B w (.slice A n c) L) : Cl enc w A L := by
  obtain ⟨A2, c2, e, _, _, hc⟩ := h.inS
  exact (Value.slice.inj e).1 ▸ hc
/-- What Even returns. -/
def evE (t m : Int) : Nat := if m < 1 ∨ 512 < m then 1 else errS t (List.replicate m.toNat 1)
def evL (t m : Int) : List Int := if m < 1 ∨ 512 < m then [] else splL t (List.replicate m.toNat 1)
theorem ev_out {t m : Int} (h : m < 1 ∨ 512 < m) : evE t m = 1 ∧ evL t m = [] := ⟨if_pos h, if_pos h⟩
theorem ev_in {t : Int} {N : Nat} (h1 : 1 ≤ N) (h2 : N ≤ 512) : evE t (N : Int) = errS t (List.replicate N 1) ∧ evL t (N : Int) = splL t (List.replicate N 1) := by
  unfold evE evL
  rw [if_neg (by omega), if_neg (by omega), Int.toNat_natCast]
  exact ⟨rfl, rfl⟩
theorem ev_t {t : Int} {m : Int} (h : inW t = false) : evE t m = 1 ∧ evL t m = [] := by
  unfold evE evL
  by_cases hm : m < 1 ∨ 512 < m
  · rw [if_pos hm, if_pos hm]; exact ⟨rfl, rfl⟩
  · rw [if_neg hm, if_neg hm, errS_t h]
    refine ⟨rfl, ?_⟩
    unfold splL
    rw [errS_t h, if_neg (by omega)]

set_option maxHeartbeats 1600000 in
theorem share_even (t m : Int) (w : World) : Calls Try.prog 16 #[.int .i64 t, .int .i64 m] w (ResL (evL t m) (evE t m) w) := by
  by_cases hm : m < 1 ∨ 512 < m
  · have HE := Lib.hid (ev_out (t := t) hm)
    have HF : Hid (ResL (evL t m) (evE t m) w (.returned (.tuple #[.slice none 0 0, .int .i64 1])) w) := ⟨_, by rw [HE.out.1]; rfl, by rw [HE.out.2]; exact Own.nil _ _ _ _, Below.refl _ _⟩
    rcases hm with h | h
    · go_enter Try.func16, Try.ntmps16
      go_wp2_with fail
      go_ret2
      exact HF.out
    · have h1 : ¬ m < 1 := by omega
      go_enter Try.func16, Try.ntmps16
      go_wp2_with fail
      go_ret2
      exact HF.out
  · obtain ⟨N, rfl⟩ : ∃ N : Nat, m = (N : Int) := ⟨m.toNat, by omega⟩
    have HN := Lib.hid (show 1 ≤ N ∧ N ≤ 512 by omega)
    have HE := Lib.hid (ev_in (t := t) HN.out.1 HN.out.2)
    have h1 : ¬ (N : Int) < 1 := by omega
    have h2 : ¬ (512 : Int) < (N : Int) := by omega
    have h3 : 1 ≤ N := HN.out.1
    have h4 : ¬ 512 < N := by have := HN.out; omega
    clear hm
    go_enter Try.func16, Try.ntmps16
    go_wp2_with fail
    have HR := Lib.hid (repeat_int N 1 w.heap.size 1 (w.alloc (.cells #[.int .i64 1] 3)) (by have := HN.out; omega) HN.out.1 (int_one w 1 3 rfl) (by simp))
    have HB1 := Lib.hid (below_alloc w (.cells #[.int .i64 1] 3))
    generalize w.alloc (.cells #[.int .i64 1] 3) = w1 at *
    refine HR.out.mono ?_
    rintro e w2 ⟨rfl, hown, hb2⟩
    have HB2 : Hid (Below w.heap.size w w2) := bstep HB1.out hb2
    have HSP := Lib.hid (split_n t (List.replicate N 1) N (by simp) _ N w2 hown.cl (by have := HN.out; omega))
    obtain ⟨E, hE⟩ : ∃ E, E = errS t (List.replicate N 1) := ⟨_, rfl⟩
    obtain ⟨R, hR⟩ : ∃ E, E = splL t (List.replicate N 1) := ⟨_, rfl⟩
    rw [← hE, ← hR] at HSP HE
    clear hown hb2 hE hR HR HB1
    go_wp2_with fail
    refine HSP.out.mono ?_
    intro e w3 h3
    obtain ⟨A, n, c, rfl, hn, hl, ho, -, hb3⟩ := h3.open_
    have HO := Lib.hid ho
    have HB3 := Lib.hid hb3
    clear ho hb3 h3 hn hl
    go_wp2_with fail
    go_ret2
    exact ⟨_, tup2 rfl (by rw [HE.out.1]), by rw [HE.out.2]; exact HO.out.less HB2.out.size, bstep HB2.out HB3.out⟩

set_option maxHeartbeats 1600000 in
theorem ref_even (t m : Int) (w : World) : Calls Try.prog 17 #[.int .i64 t, .int .i64 m] w (ResL (evL t m) (evE t m) w) := by
  have hmx : mx = 1125899906842624 := rfl
  cases hi : inW t with
  | false =>
    have HE := Lib.hid (ev_t (m := m) hi)
    have HF : Hid (ResL (evL t m) (evE t m) w (.returned (.tuple #[.slice none 0 0, .int .i64 1])) w) := ⟨_, by rw [HE.out.1]; rfl, by rw [HE.out.2]; exact Own.nil _ _ _ _, Below.refl _ _⟩
    rcases inW_no.mp hi with h | h
    · clear hi hmx
      go_enter Try.func17, Try.ntmps17
      go_wp2_with fail
      go_ret2
      exact HF.out
    · have h1 : ¬ t < 0 := by omega
      have h2 : 1125899906842624 < t := by omega
      clear hi hmx h
      go_enter Try.func17, Try.ntmps17
      go_wp2_with fail
      go_ret2
      exact HF.out
  | true =>
    obtain ⟨t0, t1⟩ := inW_iff.mp hi
    have g1 : ¬ t < 0 := by omega
    have g2 : ¬ 1125899906842624 < t := by omega
    clear hi t0 t1 hmx
    by_cases hm : m < 1 ∨ 512 < m
    · have HE := Lib.hid (ev_out (t := t) hm)
      have HF : Hid (ResL (evL t m) (evE t m) w (.returned (.tuple #[.slice none 0 0, .int .i64 1])) w) := ⟨_, by rw [HE.out.1]; rfl, by rw [HE.out.2]; exact Own.nil _ _ _ _, Below.refl _ _⟩
      rcases hm with h | h
      · go_enter Try.func17, Try.ntmps17
        go_wp2_with fail
        go_ret2
        exact HF.out
      · have h1 : ¬ m < 1 := by omega
        go_enter Try.func17, Try.ntmps17
        go_wp2_with fail
        go_ret2
        exact HF.out
    · obtain ⟨N, rfl⟩ : ∃ N : Nat, m = (N : Int) := ⟨m.toNat, by omega⟩
      have HN := Lib.hid (show 1 ≤ N ∧ N ≤ 512 by omega)
      have HE := Lib.hid (ev_in (t := t) HN.out.1 HN.out.2)
      have h1 : ¬ (N : Int) < 1 := by omega
      have h2 : ¬ (512 : Int) < (N : Int) := by omega
      have h3 : 1 ≤ N := HN.out.1
      have h4 : ¬ 512 < N := by have := HN.out; omega
      clear hm
      go_enter Try.func17, Try.ntmps17
      go_wp2_with fail
      go_loopw [6, 7] (fun v x wr => ∃ (k c' : Nat) (A' : Option Addr), v = .slice A' k c' ∧ x = .int .i64 (k : Int) ∧ k ≤ N ∧ Own eI 3 w.heap.size wr (.slice A' k c') (List.replicate k 1) ∧ Below w.heap.size w wr) (fun _ x _ => N - (RowKit.intOf x).toNat)
      case atStart => exact ⟨0, 0, none, rfl, rfl, Nat.zero_le _, Own.nil _ _ _ _, Below.refl _ _⟩
      case round =>
        obtain ⟨k, c', A', rfl, rfl, hk, hown, hbel⟩ := hrel
        have HO := Lib.hid hown
        have HB := Lib.hid hbel
        clear hown hbel
        rcases Nat.lt_or_ge k N with hlt | hge
        · have HLT := Lib.hid hlt
          have hk1 : IntKind.i64.wrap ((k : Int) + 1) = ((k + 1 : Nat) : Int) := wrap_id (by have := HN.out; omega)
          have i1 : (k : Int) < (N : Int) := by omega
          clear hk hlt
          go_wp2_with (at_builtin; refine append_int rfl _ _ rfl w.heap.size (.slice A' k c') (List.replicate k 1) rfl (HO.out.alloc _) wr.heap.size 1 1 rfl (by simp) (by have := HN.out; have := HLT.out; simp; omega) (Nat.le_trans HB.out.size (below_alloc _ _).size) ?_; intro v' w6 hown' hg' hat; refine Hid.out ?_)
          have HBA := Lib.hid (below_alloc wr (.cells #[.int .i64 1] 3))
          have HB6 : Hid (Below w.heap.size w w6) := HB.out.trans ((HBA.out.mono HB.out.size).trans (Own.below (HO.out.alloc _) hg' (Nat.le_trans HB.out.size HBA.out.size)))
          obtain ⟨A6, c6, rfl, -, -⟩ := hown'.inS.open_
          have e6 : (List.replicate k (1 : Int) ++ [1]).length = k + 1 := by simp
          have e7 : List.replicate k (1 : Int) ++ [1] = List.replicate (k + 1) 1 := List.replicate_succ'.symm
          rw [e6, e7] at hown'
          rw [e6]
          have HO6 := Lib.hid hown'
          clear hown' hg' hat e6 e7 HBA
          refine Lib.hid ?_
          go_wp2_with fail
          go_roundw
          case rel => exact ⟨k + 1, c6, A6, rfl, rfl, HLT.out, HO6.out, HB6.out⟩
          case measure =>
            have := HLT.out
            simp [RowKit.intOf]; omega
        · obtain rfl : N = k := by omega
          have hcl := own_cl HO.out
          have HSP := Lib.hid (rsplit_n t (List.replicate N 1) N (by simp) A' c' wr hcl (by have := HN.out; omega))
          obtain ⟨E, hE⟩ : ∃ E, E = errS t (List.replicate N 1) := ⟨_, rfl⟩
          obtain ⟨R, hR⟩ : ∃ E, E = splL t (List.replicate N 1) := ⟨_, rfl⟩
          rw [← hE, ← hR] at HSP HE
          clear hE hR hcl hk hge
          go_wp2_with fail
          refine HSP.out.mono ?_
          intro e w3 h3
          obtain ⟨A3, n3, c3, rfl, hn, hl, ho, -, hb3⟩ := h3.open_
          have HO3 := Lib.hid ho
          have HB3 := Lib.hid hb3
          clear ho hb3 h3 hn hl
          go_wp2_with fail
          go_ret2
          exact ⟨_, tup2 rfl (by rw [HE.out.1]), by rw [HE.out.2]; exact HO3.out.less HB.out.size, bstep HB.out HB3.out⟩
end Go.Proofs.Ytdolhanniiejfaa.Share
/- Fair of the program and of the reference. -/
namespace Go.Proofs.Ytdolhanniiejfaa.Share
open Go.ChangeShapes Go.WideShapes Go.RowKit Go.Lib Go.Proofs.Ytdolhanniiejfaa.Mem
open Go.Proofs.Ytdolhanniiejfaa.Num (num_sum num_muldiv sumV sumE sumV_all sumE_all sumE_long sumV_long tot tot_snoc allIn inB inB_yes okV okE okV_yes okE_yes okV_no okE_no Holds mdV mdE mdV_in mdR mdM sg negB awayB InR inr_mk)
set_option linter.unusedVariables false
set_option maxRecDepth 100000

/-! ### slices.Equal -/
theorem cl_block {w : World} {A : Option Addr} {L : List Int} (h : Cl eI w A L) (h0 : 0 < L.length) : ∃ b off, A = some ⟨b, off, none⟩ ∧ ∀ j, j < L.length → w.cell? ⟨b, off + j, none⟩ = some (.int .i64 (L.getD j 0)) := by
  obtain ⟨z, hz⟩ := get_lt h0
  obtain ⟨b, off, rfl, _, _⟩ := h 0 z hz
  refine ⟨b, off, rfl, fun j hj => ?_⟩
  obtain ⟨y, hy⟩ := get_lt hj
  obtain ⟨b', off', e, _, hc⟩ := h j y hy
  cases e
  rw [hc, List.getD_eq_getElem?_getD, hy]; rfl
theorem equal_n (L M : List Int) (n m : Nat) (hn : L.length = n) (hm : M.length = m) (A B : Option Addr) (c d : Nat) (w : World) (ha : Cl eI w A L) (hb : Cl eI w B M) (h1 : n ≤ 9223372036854775807) (h2 : m ≤ 9223372036854775807) :
    Calls Try.prog 30 #[.slice A n c, .slice B m d] w fun e w' => e = .returned (.bool (decide (L = M))) ∧ Below w.heap.size w w' := by
  subst hn; subst hm
  by_cases he : L.length = M.length
  · rcases Nat.eq_zero_or_pos L.length with h0 | h0
    · have hL := List.eq_nil_of_length_eq_zero h0
      have hM := List.eq_nil_of_length_eq_zero (he.symm.trans h0)
      subst hL; subst hM
      refine (Try.slices_Equal_int_empty A B c 0 d w (by omega)).mono ?_
      rintro e w' ⟨rfl, rfl⟩
      exact ⟨by simp, Below.refl _ _⟩
    · obtain ⟨b1, o1, rfl, g1⟩ := cl_block ha h0
      obtain ⟨b2, o2, rfl, g2⟩ := cl_block hb (he ▸ h0)
      refine (Try.slices_Equal_int b1 o1 L.length c b2 o2 M.length d L M w (Nat.le_refl _) (Nat.le_refl _) h1 h2 g1 g2).mono ?_
      rintro e w' ⟨rfl, q, rfl⟩
      refine ⟨?_, below_drewN (Below.refl _ _) _⟩
      rw [List.take_length, List.take_length]
      exact ret_bool (by rw [Bool.eq_iff_iff]; simp)
  · refine (Try.slices_Equal_int_lens A B L.length c M.length d w he).mono ?_
    rintro e w' ⟨rfl, rfl⟩
    exact ⟨ret_bool (by symm; simp; intro h; exact he (by rw [h])), Below.refl _ _⟩

/-! ### What Fair says -/
def fairB (ps ws : List Int) : Bool := decide (sumE ps = 0) && (decide (errS (sumV ps) ws = 0) && decide (ps = splL (sumV ps) ws))
theorem splL_len {t : Int} {ws : List Int} (h : errS t ws = 0) : (splL t ws).length = ws.length := by unfold splL; rw [if_pos h, partsL_len]
theorem splL_pos {t : Int} {ws : List Int} : ∀ z ∈ splL t ws, 0 ≤ z := by
  intro z hz
  unfold splL at hz
  split at hz
  · unfold partsL at hz
    obtain ⟨i, _, rfl⟩ := List.mem_map.mp hz
    omega
  · cases hz
theorem sumK_lst {f : Nat → Nat} {n : Nat} : ∀ k, k ≤ n → sumK (lst (fun i => (f i : Int)) n) k = (sm f k : Int)
  | 0, _ => rfl
  | k + 1, h => by rw [sumK_succ (lst_at _ (by omega)), sumK_lst k (by omega), sm]; simp
theorem splL_sum {t : Int} {ws : List Int} (h : errS t ws = 0) : sumK (splL t ws) (splL t ws).length = t := by
  have e : splL t ws = lst (fun i => (part t.toNat (wf ws) ws.length i : Int)) ws.length := by unfold splL; rw [if_pos h]; rfl
  rw [e, lst_len, sumK_lst _ (Nat.le_refl _)]
  exact (Ok.of h).parts
theorem sumK_mono {zs : List Int} (h : ∀ z ∈ zs, 0 ≤ z) : ∀ (d k : Nat), k + d = zs.length → sumK zs k ≤ sumK zs zs.length
  | 0, k, hk => by rw [show k = zs.length by omega]; exact Int.le_refl _
  | d + 1, k, hk => by
    obtain ⟨z, hz⟩ := get_lt (show k < zs.length by omega)
    have h1 := sumK_mono h d (k + 1) (by omega)
    rw [sumK_succ hz] at h1
    have := h z (List.mem_of_getElem? hz)
    omega
structure FairOk (ps ws : List Int) : Prop where
  len : ps.length = ws.length
  pos : ∀ z ∈ ps, 0 ≤ z
  sum : sumK ps ps.length ≤ mx
theorem fairB_ok {ps ws : List Int} (h : fairB ps ws = true) : FairOk ps ws := by
  simp only [fairB, Bool.and_eq_true, decide_eq_true_eq] at h
  obtain ⟨h1, h2, h3⟩ := h
  have e1 := splL_len h2
  have e2 := splL_sum h2
  rw [← h3] at e1 e2
  exact ⟨e1, fun z hz => splL_pos z (h3 ▸ hz), by rw [e2]; exact (Ok.of h2).t1⟩
theorem fairB_no {ps ws : List Int} (h : ¬ FairOk ps ws) : fairB ps ws = false := by
  cases h1 : fairB ps ws with
  | false => rfl
  | true => exact absurd (fairB_ok h1) h
/-- Where the parts are in range: what the reference asks. -/
theorem fairB_in {ps ws : List Int} (h : FairOk ps ws) : fairB ps ws = (decide (errS (sumK ps ps.length) ws = 0) && decide (splL (sumK ps ps.length) ws = ps)) := by
  have hmx : mx = 1125899906842624 := rfl
  have ha : ∀ z ∈ ps, 0 ≤ z ∧ z ≤ mx := fun z hz => by
    refine ⟨h.pos z hz, ?_⟩
    obtain ⟨k, hk⟩ := List.mem_iff_getElem?.mp hz
    have h1 := sumK_mono h.pos (ps.length - (k + 1)) (k + 1) (by have := lt_of_get hk; omega)
    rw [sumK_succ hk] at h1
    have h2 : 0 ≤ sumK ps k := by
      have h3 := sm_sumK (ws := ps) (fun z hz => h.pos z hz) (k := k) (by have := lt_of_get hk; omega)
      omega
    have := h.sum
    omega
  have hs0 : 0 ≤ sumK ps ps.length := by
    have h3 := sm_sumK (ws := ps) (fun z hz => h.pos z hz) (Nat.le_refl ps.length)
    omega
  by_cases hl : 65536 < ps.length
  · have he : ¬ errS (sumK ps ps.length) ws = 0 := by
      intro h4
      have := (Ok.of h4).n1
      have := h.len
      omega
    unfold fairB
    rw [sumE_long hl, decide_eq_false he]; simp
  · have hall := allIn_of ha
    have hsm := h.sum
    have hV : sumV ps = sumK ps ps.length := by rw [sumV_all (by omega) hall, tot_all]; exact okV_yes (by omega) (by omega)
    have hE : sumE ps = 0 := by rw [sumE_all (by omega) hall, tot_all]; exact okE_yes (by omega) (by omega)
    unfold fairB
    rw [hV, hE]
    simp only [decide_true, Bool.true_and]
    congr 1
    rw [Bool.eq_iff_iff]; simp
    exact eq_comm

set_option maxHeartbeats 1600000 in
theorem share_fair (ps ws : List Int) (n m : Nat) (hn : ps.length = n) (hm : ws.length = m) (A B : Option Addr) (c d : Nat) (w : World) (ha : Cl eI w A ps) (hb : Cl eI w B ws) (h1 : n ≤ 9223372036854775807) (h2 : m ≤ 9223372036854775807) :
    Calls Try.prog 18 #[.slice A n c, .slice B m d] w fun e w' => e = .returned (.bool (fairB ps ws)) ∧ Below w.heap.size w w' := by
  have HSUM := Lib.hid (hn ▸ num_sum ps A c w (cl_holds ha) (by omega) : Calls Try.prog 29 #[.slice A n c] w fun e w' => e = .returned (.tuple #[.int .i64 (sumV ps), .int .i64 (sumE ps)]) ∧ Below w.heap.size w w')
  have HSP := Lib.hid (fun W (hW : Below w.heap.size w W) => split_n (sumV ps) ws m hm B d W (hb.on hW) h2)
  have HEQ := Lib.hid (fun W (hW : Below w.heap.size w W) (L : List Int) (k : Nat) (hk : L.length = k) (C : Option Addr) (cc : Nat) (hC : Cl eI W C L) (hk2 : k ≤ 9223372036854775807) => equal_n ps L n k hn hk A C c cc W (ha.on hW) hC h1 hk2)
  have HF : Hid (fairB ps ws = (decide (sumE ps = 0) && (decide (errS (sumV ps) ws = 0) && decide (ps = splL (sumV ps) ws)))) := rfl
  obtain ⟨V, hV⟩ : ∃ V, V = sumV ps := ⟨_, rfl⟩
  obtain ⟨E, hE⟩ : ∃ E, E = sumE ps := ⟨_, rfl⟩
  obtain ⟨E2, hE2⟩ : ∃ E2, E2 = errS (sumV ps) ws := ⟨_, rfl⟩
  obtain ⟨L, hL⟩ : ∃ L, L = splL (sumV ps) ws := ⟨_, rfl⟩
  rw [← hE2, ← hL, ← hE] at HF
  rw [← hE2, ← hL] at HSP
  rw [← hV, ← hE] at HSUM
  rw [← hV] at HSP
  clear ha hb hn hm hV hE hE2 hL
  by_cases hE : E = 0
  · subst hE
    by_cases hE2 : E2 = 0
    · subst hE2
      have hz0 : ((0 : Nat) : Int) = 0 := rfl
      go_enter Try.func18, Try.ntmps18
      go_wp2_with fail
      refine HSUM.out.mono ?_
      rintro e w1 ⟨rfl, hb1⟩
      have HB1 := Lib.hid hb1
      have HSP1 := Lib.hid (HSP.out w1 hb1)
      clear hb1
      go_wp2_with fail
      refine HSP1.out.mono ?_
      intro e w2 hres
      obtain ⟨C, k, cc, rfl, hk, hkl, -, hcl, hb2⟩ := hres.open_
      have HB2 : Hid (Below w.heap.size w w2) := bstep HB1.out hb2
      have HEQ2 := Lib.hid (HEQ.out w2 HB2.out L k hk C cc hcl hkl)
      obtain ⟨p, hp⟩ : ∃ p, p = decide (ps = L) := ⟨_, rfl⟩
      rw [← hp] at HF HEQ2
      have HP := Lib.hid (show fairB ps ws = p by rw [HF.out]; simp)
      clear hres hk hkl hcl hb2 hp
      rw [hz0]
      clear hz0
      go_wp2_with fail
      refine HEQ2.out.mono ?_
      rintro e w3 ⟨rfl, hb3⟩
      have HB3 := Lib.hid hb3
      clear hb3
      go_wp2_with fail
      go_ret
      exact ⟨ret_bool HP.out.symm, bstep HB2.out HB3.out⟩
    · have HP : Hid (fairB ps ws = false) := by
        show fairB ps ws = false
        rw [HF.out, decide_eq_false hE2]; simp
      have f1 : ((E2 : Int) == 0) = false := by simp; omega
      have f2 : ¬ (E2 : Int) = 0 := by omega
      go_enter Try.func18, Try.ntmps18
      go_wp2_with fail
      refine HSUM.out.mono ?_
      rintro e w1 ⟨rfl, hb1⟩
      have HB1 := Lib.hid hb1
      have HSP1 := Lib.hid (HSP.out w1 hb1)
      clear hb1
      go_wp2_with fail
      refine HSP1.out.mono ?_
      intro e w2 hres
      obtain ⟨C, k, cc, rfl, hk, hkl, -, hcl, hb2⟩ := hres.open_
      have HB2 : Hid (Below w.heap.size w w2) := bstep HB1.out hb2
      clear hres hk hkl hcl hb2
      go_wp2_with fail
      go_ret
      exact ⟨ret_bool HP.out.symm, HB2.out⟩
  · have HP : Hid (fairB ps ws = false) := by
      show fairB ps ws = false
      rw [HF.out, decide_eq_false hE]; rfl
    have f1 : (E != 0) = true := by simp [hE]
    go_enter Try.func18, Try.ntmps18
    go_wp2_with fail
    refine HSUM.out.mono ?_
    rintro e w1 ⟨rfl, hb1⟩
    have HB1 := Lib.hid hb1
    clear hb1
    go_wp2_with fail
    go_ret
    exact ⟨ret_bool HP.out.symm, HB1.out⟩

set_option maxHeartbeats 1600000 in
theorem ref_fair (ps ws : List Int) (n m : Nat) (hn : ps.length = n) (hm : ws.length = m) (A B : Option Addr) (c d : Nat) (w : World) (ha : Cl eI w A ps) (hb : Cl eI w B ws) (h1 : n ≤ 9223372036854775807) (h2 : m ≤ 9223372036854775807) :
    Calls Try.prog 19 #[.slice A n c, .slice B m d] w fun e w' => e = .returned (.bool (fairB ps ws)) ∧ Below w.heap.size w w' := by
  by_cases hnm : n = m
  · subst hnm
    have HA := Lib.hid ha
    have HN := Lib.hid hn
    have HLL := Lib.hid (show ps.length = ws.length by omega)
    have HSP := Lib.hid (fun t W (hW : Below w.heap.size w W) => rsplit_n t ws n hm B d W (hb.on hW) h2)
    have HEQ := Lib.hid (fun W (hW : Below w.heap.size w W) (L : List Int) (k : Nat) (hk : L.length = k) (C : Option Addr) (cc : Nat) (hC : Cl eI W C L) (hk2 : k ≤ 9223372036854775807) => same_n L ps k n hk hn C A cc c W hC (ha.on hW) hk2 h1)
    have f0 : ((n : Int) != (n : Int)) = false := by simp
    have f1 : (n != n) = false := by simp
    clear ha hb hn hm
    go_enter Try.func19, Try.ntmps19
    go_wp2_with fail
    go_loopw [5, 6] (fun x y wr => ∃ (k : Nat) (s : Int), k ≤ n ∧ x = .int .i64 s ∧ y = .int .i64 (k : Int) ∧ s = sumK ps k ∧ 0 ≤ s ∧ s ≤ 1125899906842624 ∧ (∀ j z, j < k → ps[j]? = some z → 0 ≤ z) ∧ wr = w) (fun _ y _ => n - (RowKit.intOf y).toNat)
    case atStart => exact ⟨0, 0, Nat.zero_le _, rfl, rfl, rfl, by omega, by omega, fun j z h => by omega, rfl⟩
    case round =>
      obtain ⟨k, s, hk, rfl, rfl, hs, hs0, hs1, hall, rfl⟩ := hrel
      have HSK := Lib.hid hs
      have HALL := Lib.hid hall
      have hmx : mx = 1125899906842624 := rfl
      clear hs hall
      rcases Nat.lt_or_ge k n with hlt | hge
      · obtain ⟨z, hz⟩ := get_lt (L := ps) (k := k) (by rw [HN.out]; exact hlt)
        obtain ⟨b, off, rfl, hb, hcell⟩ := HA.out k z hz
        have HZ := Lib.hid hz
        have i1 : (k : Int) < (n : Int) := by omega
        have i2 : (0 : Int) ≤ (k : Int) := by omega
        have i3 : k < n := hlt
        have hk1 : IntKind.i64.wrap ((k : Int) + 1) = ((k + 1 : Nat) : Int) := wrap_id (by omega)
        clear hz
        rcases Int.lt_or_le z 0 with hz0 | hz0
        · have HP : Hid (fairB ps ws = false) := fairB_no fun h => by have := h.pos z (List.mem_of_getElem? HZ.out); omega
          clear hs0 hs1 hk hlt hmx
          go_wp2_with fail
          go_ret
          exact ⟨ret_bool HP.out.symm, Below.refl _ _⟩
        · obtain ⟨u, hu⟩ : ∃ u, u = 1125899906842624 - s := ⟨_, rfl⟩
          have hwu : IntKind.i64.wrap (1125899906842624 - s) = u := by rw [wrap_id (by omega)]; omega
          have f2 : ¬ z < 0 := by omega
          rcases Int.lt_or_le u z with hz1 | hz1
          · have HP : Hid (fairB ps ws = false) := fairB_no fun h => by
              have h5 := sumK_mono h.pos (ps.length - (k + 1)) (k + 1) (by have := lt_of_get HZ.out; omega)
              rw [sumK_succ HZ.out, ← HSK.out] at h5
              have := h.sum
              omega
            clear hs0 hs1 hk hlt hu hz0 hmx
            go_wp2_with fail
            go_ret
            exact ⟨ret_bool HP.out.symm, Below.refl _ _⟩
          · have f3 : ¬ u < z := by omega
            obtain ⟨s', hs'⟩ : ∃ s', s' = s + z := ⟨_, rfl⟩
            have hw : IntKind.i64.wrap (s + z) = s' := by rw [wrap_id (by omega)]; omega
            have HX := Lib.hid (show 0 ≤ s' ∧ s' ≤ 1125899906842624 ∧ k + 1 ≤ n ∧ s' = s + z ∧ 0 ≤ z by omega)
            clear hs0 hs1 hk hlt hu hz0 hz1 hs' hmx
            go_wp2_with fail
            go_roundw
            case rel => exact ⟨k + 1, s', HX.out.2.2.1, rfl, rfl, by rw [sumK_succ HZ.out, ← HSK.out]; exact HX.out.2.2.2.1, HX.out.1, HX.out.2.1, fun j y h3 h4 => by
              rcases Nat.lt_or_ge j k with h5 | h5
              · exact HALL.out j y h5 h4
              · obtain rfl : j = k := by omega
                rw [HZ.out] at h4; cases h4; exact HX.out.2.2.2.2, trivial⟩
            case measure =>
              have := HX.out
              simp [RowKit.intOf]; omega
      · obtain rfl : n = k := by omega
        have HOK : Hid (FairOk ps ws) := ⟨HLL.out, fun z hz => by
          obtain ⟨j, hj⟩ := List.mem_iff_getElem?.mp hz
          exact HALL.out j z (by rw [← HN.out]; exact lt_of_get hj) hj, by rw [HN.out, ← HSK.out, hmx]; exact hs1⟩
        have HF := Lib.hid (fairB_in HOK.out)
        have HS2 := Lib.hid (show sumK ps ps.length = s by rw [HN.out]; exact HSK.out.symm)
        rw [HS2.out] at HF
        have HSP1 := Lib.hid (HSP.out s wr (Below.refl _ _))
        obtain ⟨E2, hE2⟩ : ∃ E2, E2 = errS s ws := ⟨_, rfl⟩
        obtain ⟨L, hL⟩ : ∃ L, L = splL s ws := ⟨_, rfl⟩
        rw [← hE2, ← hL] at HF HSP1
        clear hs0 hs1 hk hge hmx hE2 hL
        by_cases hE2 : E2 = 0
        · subst hE2
          have hz0 : ((0 : Nat) : Int) = 0 := rfl
          go_wp2_with fail
          refine HSP1.out.mono ?_
          intro e w2 hres
          obtain ⟨C, k, cc, rfl, hk, hkl, -, hcl, hb2⟩ := hres.open_
          have HB2 := Lib.hid hb2
          have HEQ2 := Lib.hid (HEQ.out w2 HB2.out L k hk C cc hcl hkl)
          obtain ⟨p, hp⟩ : ∃ p, p = decide (L = ps) := ⟨_, rfl⟩
          rw [← hp] at HF HEQ2
          have HP := Lib.hid (show fairB ps ws = p by rw [HF.out]; simp)
          clear hres hk hkl hcl hb2 hp
          rw [hz0]
          clear hz0
          go_wp2_with fail
          refine HEQ2.out.mono ?_
          rintro e w3 ⟨rfl, hb3⟩
          have HB3 := Lib.hid hb3
          clear hb3
          go_wp2_with fail
          go_ret
          exact ⟨ret_bool HP.out.symm, bstep HB2.out HB3.out⟩
        · have HP : Hid (fairB ps ws = false) := by
            show fairB ps ws = false
            rw [HF.out, decide_eq_false hE2]; rfl
          have f4 : ((E2 : Int) == 0) = false := by simp; omega
          have f5 : ¬ (E2 : Int) = 0 := by omega
          go_wp2_with fail
          refine HSP1.out.mono ?_
          intro e w2 hres
          obtain ⟨C, k, cc, rfl, hk, hkl, -, hcl, hb2⟩ := hres.open_
          have HB2 := Lib.hid hb2
          clear hres hk hkl hcl hb2
          go_wp2_with fail
          go_ret
          exact ⟨ret_bool HP.out.symm, HB2.out⟩
  · have HP : Hid (fairB ps ws = false) := fairB_no fun h => by have := h.len; omega
    have f0 : ((n : Int) != (m : Int)) = true := by simp; omega
    have f1 : (n != m) = true := by simp [hnm]
    clear ha hb hn hm
    go_enter Try.func19, Try.ntmps19
    go_wp2_with fail
    go_ret
    exact ⟨ret_bool HP.out.symm, Below.refl _ _⟩
end Go.Proofs.Ytdolhanniiejfaa.Share
/- The examples of the chapter (awake); longer. Written by gen12/awake.py. -/
namespace Go.Proofs.Ytdolhanniiejfaa.Share
open Go.ChangeShapes Go.WideShapes Go.RowKit Go.Lib Go.Proofs.Ytdolhanniiejfaa.Mem
set_option linter.unusedVariables false
set_option maxRecDepth 100000

theorem lit_cl (L : List Int) (w : World) (c : Array Value) (hc : c = (L.map eI).toArray) : Cl eI (w.alloc (.cells c 3)) (some ⟨w.heap.size, 0, none⟩) L := by
  subst hc
  intro k z hz
  refine ⟨w.heap.size, 0, rfl, by simp, ?_⟩
  rw [cell_of_row _ _ _ _ _ _ (heap_alloc_new _ _), Nat.zero_add]
  simp [hz]
theorem ex0 (A : Option Addr) (c : Nat) (W : World) (h : Cl eI W A [10, 5]) : Calls Try.prog 11 #[.int .i64 4, .slice A 2 c] W (ResL [3, 1] 0 W) := by
  have h1 := split_n 4 [10, 5] 2 rfl A c W h (by omega)
  have e1 : splL 4 [10, 5] = [3, 1] := by decide +kernel
  have e2 : errS 4 [10, 5] = 0 := by decide +kernel
  rw [e1, e2] at h1
  exact h1
theorem ex1 (A : Option Addr) (c : Nat) (W : World) (h : Cl eI W A [1, 1, 1]) : Calls Try.prog 11 #[.int .i64 10, .slice A 3 c] W (ResL [4, 3, 3] 0 W) := by
  have h1 := split_n 10 [1, 1, 1] 3 rfl A c W h (by omega)
  have e1 : splL 10 [1, 1, 1] = [4, 3, 3] := by decide +kernel
  have e2 : errS 10 [1, 1, 1] = 0 := by decide +kernel
  rw [e1, e2] at h1
  exact h1
theorem ex2 (A : Option Addr) (c : Nat) (W : World) (h : Cl eI W A [1, 1, 1]) : Calls Try.prog 13 #[.int .i64 10, .slice A 3 c] W (ResL [3, 6, 10] 0 W) := by
  have h1 := bounds_n 10 [1, 1, 1] 3 rfl A c W h (by omega)
  have e1 : bouL 10 [1, 1, 1] = [3, 6, 10] := by decide +kernel
  have e2 : errS 10 [1, 1, 1] = 0 := by decide +kernel
  rw [e1, e2] at h1
  exact h1
theorem ex3 (A : Option Addr) (c : Nat) (W : World) (h : Cl eI W A [0, 0]) : Calls Try.prog 11 #[.int .i64 0, .slice A 2 c] W (ResL [0, 0] 0 W) := by
  have h1 := split_n 0 [0, 0] 2 rfl A c W h (by omega)
  have e1 : splL 0 [0, 0] = [0, 0] := by decide +kernel
  have e2 : errS 0 [0, 0] = 0 := by decide +kernel
  rw [e1, e2] at h1
  exact h1
theorem ex4 (A : Option Addr) (c : Nat) (W : World) (h : Cl eI W A [0, 0]) : Calls Try.prog 11 #[.int .i64 1, .slice A 2 c] W (ResL [] 16 W) := by
  have h1 := split_n 1 [0, 0] 2 rfl A c W h (by omega)
  have e1 : splL 1 [0, 0] = [] := by decide +kernel
  have e2 : errS 1 [0, 0] = 16 := by decide +kernel
  rw [e1, e2] at h1
  exact h1
theorem exf0 (A B : Option Addr) (c d : Nat) (W : World) (h : Cl eI W A [3, 1]) (k : Cl eI W B [10, 5]) : Calls Try.prog 18 #[.slice A 2 c, .slice B 2 d] W fun e w' => e = .returned (.bool true) ∧ Below W.heap.size W w' := by
  have h1 := share_fair [3, 1] [10, 5] 2 2 rfl rfl A B c d W h k (by omega) (by omega)
  have e1 : fairB [3, 1] [10, 5] = true := by decide +kernel
  rw [e1] at h1
  exact h1
theorem exf1 (A B : Option Addr) (c d : Nat) (W : World) (h : Cl eI W A [2, 2]) (k : Cl eI W B [10, 5]) : Calls Try.prog 18 #[.slice A 2 c, .slice B 2 d] W fun e w' => e = .returned (.bool false) ∧ Below W.heap.size W w' := by
  have h1 := share_fair [2, 2] [10, 5] 2 2 rfl rfl A B c d W h k (by omega) (by omega)
  have e1 : fairB [2, 2] [10, 5] = false := by decide +kernel
  rw [e1] at h1
  exact h1
theorem same_yes (L : List Int) (n : Nat) (hn : L.length = n) (A B : Option Addr) (c d : Nat) (w : World) (ha : Cl eI w A L) (hb : Cl eI w B L) (h1 : n ≤ 9223372036854775807) :
    Calls Try.prog 15 #[.slice A n c, .slice B n d] w fun e w' => e = .returned (.bool true) ∧ Below w.heap.size w w' := by
  have h := same_n L L n n hn hn A B c d w ha hb h1 h1
  rw [decide_eq_true rfl] at h
  exact h

set_option maxHeartbeats 3200000 in
theorem share_awake (w : World) : Calls Try.prog 9 #[] w fun e w' => e = .returned (.bool true) ∧ Below w.heap.size w w' := by
  have HBW := Lib.hid (Below.refl w.heap.size w)
  go_enter Try.func9, Try.ntmps9
  go_wp2_with fail
  have HA0 := Lib.hid (below_alloc w (.cells #[.int .i64 10, .int .i64 5] 3))
  refine (ex0 (some ⟨w.heap.size, 0, none⟩) 2 _ (lit_cl [10, 5] w _ rfl)).mono ?_
  intro e w0 hr
  obtain ⟨A0, n0, c0, rfl, hn, hl, ho, hc, hb⟩ := hr.open_
  obtain rfl : n0 = 2 := hn.symm
  have HB0 := Lib.hid (bstep HA0.out hb)
  have HC0 := Lib.hid hc
  clear hr hn hl ho hc hb HA0
  go_wp2_with fail
  have HA1 := Lib.hid (below_alloc w0 (.cells #[.int .i64 1, .int .i64 1, .int .i64 1] 3))
  refine (ex1 (some ⟨w0.heap.size, 0, none⟩) 3 _ (lit_cl [1, 1, 1] w0 _ rfl)).mono ?_
  intro e w1 hr
  obtain ⟨A1, n1, c1, rfl, hn, hl, ho, hc, hb⟩ := hr.open_
  obtain rfl : n1 = 3 := hn.symm
  have HB1 := Lib.hid (bstep HA1.out hb)
  have HC1 := Lib.hid hc
  clear hr hn hl ho hc hb HA1
  go_wp2_with fail
  have HA2 := Lib.hid (below_alloc w1 (.cells #[.int .i64 1, .int .i64 1, .int .i64 1] 3))
  refine (ex2 (some ⟨w1.heap.size, 0, none⟩) 3 _ (lit_cl [1, 1, 1] w1 _ rfl)).mono ?_
  intro e w2 hr
  obtain ⟨A2, n2, c2, rfl, hn, hl, ho, hc, hb⟩ := hr.open_
  obtain rfl : n2 = 3 := hn.symm
  have HB2 := Lib.hid (bstep HA2.out hb)
  have HC2 := Lib.hid hc
  clear hr hn hl ho hc hb HA2
  go_wp2_with fail
  have HA3 := Lib.hid (below_alloc w2 (.cells #[.int .i64 0, .int .i64 0] 3))
  refine (ex3 (some ⟨w2.heap.size, 0, none⟩) 2 _ (lit_cl [0, 0] w2 _ rfl)).mono ?_
  intro e w3 hr
  obtain ⟨A3, n3, c3, rfl, hn, hl, ho, hc, hb⟩ := hr.open_
  obtain rfl : n3 = 2 := hn.symm
  have HB3 := Lib.hid (bstep HA3.out hb)
  have HC3 := Lib.hid hc
  clear hr hn hl ho hc hb HA3
  go_wp2_with fail
  have HA4 := Lib.hid (below_alloc w3 (.cells #[.int .i64 0, .int .i64 0] 3))
  refine (ex4 (some ⟨w3.heap.size, 0, none⟩) 2 _ (lit_cl [0, 0] w3 _ rfl)).mono ?_
  intro e w4 hr
  obtain ⟨A4, n4, c4, rfl, hn, hl, ho, hc, hb⟩ := hr.open_
  obtain rfl : n4 = 0 := hn.symm
  have HB4 := Lib.hid (bstep HA4.out hb)
  have HC4 := Lib.hid hc
  clear hr hn hl ho hc hb HA4
  go_wp2_with fail
  have HA5 := Lib.hid (below_alloc w4 (.cells #[.int .i64 3, .int .i64 1] 3))
  refine (same_yes [3, 1] 2 rfl A0 (some ⟨w4.heap.size, 0, none⟩) c0 2 _ (HC0.out.on (bstep (bstep (bstep (bstep (HB1.out) HB2.out) HB3.out) HB4.out) HA5.out)) (lit_cl [3, 1] w4 _ rfl) (by omega)).mono ?_
  rintro e w5 ⟨rfl, hb⟩
  have HB5 := Lib.hid (bstep HA5.out hb)
  clear hb
  go_wp2_with fail
  have HA6 := Lib.hid (below_alloc w5 (.cells #[.int .i64 4, .int .i64 3, .int .i64 3] 3))
  refine (same_yes [4, 3, 3] 3 rfl A1 (some ⟨w5.heap.size, 0, none⟩) c1 3 _ (HC1.out.on (bstep (bstep (bstep (bstep (HB2.out) HB3.out) HB4.out) HB5.out) HA6.out)) (lit_cl [4, 3, 3] w5 _ rfl) (by omega)).mono ?_
  rintro e w6 ⟨rfl, hb⟩
  have HB6 := Lib.hid (bstep HA6.out hb)
  clear hb
  go_wp2_with fail
  have HA7 := Lib.hid (below_alloc w6 (.cells #[.int .i64 3, .int .i64 6, .int .i64 10] 3))
  refine (same_yes [3, 6, 10] 3 rfl A2 (some ⟨w6.heap.size, 0, none⟩) c2 3 _ (HC2.out.on (bstep (bstep (bstep (bstep (HB3.out) HB4.out) HB5.out) HB6.out) HA7.out)) (lit_cl [3, 6, 10] w6 _ rfl) (by omega)).mono ?_
  rintro e w7 ⟨rfl, hb⟩
  have HB7 := Lib.hid (bstep HA7.out hb)
  clear hb
  go_wp2_with fail
  have HA8 := Lib.hid (below_alloc w7 (.cells #[.int .i64 0, .int .i64 0] 3))
  refine (same_yes [0, 0] 2 rfl A3 (some ⟨w7.heap.size, 0, none⟩) c3 2 _ (HC3.out.on (bstep (bstep (bstep (bstep (HB4.out) HB5.out) HB6.out) HB7.out) HA8.out)) (lit_cl [0, 0] w7 _ rfl) (by omega)).mono ?_
  rintro e w8 ⟨rfl, hb⟩
  have HB8 := Lib.hid (bstep HA8.out hb)
  clear hb
  go_wp2_with fail
  have HX0 := Lib.hid (below_alloc w8 (.cells #[.int .i64 3, .int .i64 1] 3))
  have HY0 := Lib.hid (below_alloc (w8.alloc (.cells #[.int .i64 3, .int .i64 1] 3)) (.cells #[.int .i64 10, .int .i64 5] 3))
  have HZ0 := Lib.hid (lit_cl [10, 5] (w8.alloc (.cells #[.int .i64 3, .int .i64 1] 3)) #[.int .i64 10, .int .i64 5] rfl)
  rw [show (w8.alloc (.cells #[.int .i64 3, .int .i64 1] 3)).heap.size = w8.heap.size + 1 by simp] at HZ0
  refine (exf0 (some ⟨w8.heap.size, 0, none⟩) (some ⟨w8.heap.size + 1, 0, none⟩) 2 2 _ ((lit_cl [3, 1] w8 _ rfl).on HY0.out) HZ0.out).mono ?_
  rintro e w9 ⟨rfl, hb⟩
  have HB9 := Lib.hid (bstep (bstep HX0.out HY0.out) hb)
  clear hb
  go_wp2_with fail
  have HX1 := Lib.hid (below_alloc w9 (.cells #[.int .i64 2, .int .i64 2] 3))
  have HY1 := Lib.hid (below_alloc (w9.alloc (.cells #[.int .i64 2, .int .i64 2] 3)) (.cells #[.int .i64 10, .int .i64 5] 3))
  have HZ1 := Lib.hid (lit_cl [10, 5] (w9.alloc (.cells #[.int .i64 2, .int .i64 2] 3)) #[.int .i64 10, .int .i64 5] rfl)
  rw [show (w9.alloc (.cells #[.int .i64 2, .int .i64 2] 3)).heap.size = w9.heap.size + 1 by simp] at HZ1
  refine (exf1 (some ⟨w9.heap.size, 0, none⟩) (some ⟨w9.heap.size + 1, 0, none⟩) 2 2 _ ((lit_cl [2, 2] w9 _ rfl).on HY1.out) HZ1.out).mono ?_
  rintro e w10 ⟨rfl, hb⟩
  have HB10 := Lib.hid (bstep (bstep HX1.out HY1.out) hb)
  clear hb
  go_wp2_with fail
  go_ret
  exact ⟨rfl, bstep HB0.out (bstep (bstep (bstep (bstep (bstep (bstep (bstep (bstep (bstep (HB1.out) HB2.out) HB3.out) HB4.out) HB5.out) HB6.out) HB7.out) HB8.out) HB9.out) HB10.out)⟩
end Go.Proofs.Ytdolhanniiejfaa.Share
/- longer; the walks of ShareSplits and ShareEvens. -/
namespace Go.Proofs.Ytdolhanniiejfaa.Share
open Go.ChangeShapes Go.WideShapes Go.RowKit Go.Lib Go.Proofs.Ytdolhanniiejfaa.Mem
set_option linter.unusedVariables false
set_option maxRecDepth 100000

theorem in_cl {w : World} {A : Option Addr} {n c : Nat} {zs : List Int} (h : InInts .i64 w A n c zs) : Cl eI w A zs ∧ zs.length = n ∧ n ≤ 9223372036854775807 := by
  obtain ⟨h1, h2, h3, _, h4⟩ := h
  refine ⟨h4, h1.symm, ?_⟩
  unfold maxLen at h3; omega
/-- What longer returns. -/
def lonL (ws : List Int) (m : Int) : List Int := if m < 500 ∨ 520 < m ∨ ws.length = 0 then ws else (List.range m.toNat).map fun i => ws.getD (i % ws.length) 0
def LonR (L : List Int) (w : World) : Ending → World → Prop := fun e w' => ∃ (A : Option Addr) (n c : Nat), e = .returned (.slice A n c) ∧ L.length = n ∧ n ≤ 9223372036854775807 ∧ Cl eI w' A L ∧ Below w.heap.size w w'
theorem lonL_up (ws : List Int) (k : Nat) : ((List.range (k + 1)).map fun i => ws.getD (i % ws.length) 0) = ((List.range k).map fun i => ws.getD (i % ws.length) 0) ++ [ws.getD (k % ws.length) 0] := by
  rw [List.range_succ, List.map_append]; rfl

set_option maxHeartbeats 1600000 in
theorem longer_run (ws : List Int) (m : Int) (N : Nat) (hN : ws.length = N) (A : Option Addr) (c : Nat) (w : World) (hS : Cl eI w A ws) (hl : N ≤ 9223372036854775807) :
    Calls Try.prog 10 #[.slice A N c, .int .i64 m] w (LonR (lonL ws m) w) := by
  by_cases hm : m < 500 ∨ 520 < m ∨ N = 0
  · have HR : Hid (LonR (lonL ws m) w (.returned (.slice A N c)) w) := by
      have e : lonL ws m = ws := if_pos (by rw [hN]; exact hm)
      exact ⟨A, N, c, rfl, by rw [e]; exact hN, hl, by rw [e]; exact hS, Below.refl _ _⟩
    clear hS hN
    rcases hm with h | h | h
    · go_enter Try.func10, Try.ntmps10
      go_wp2_with fail
      go_ret
      exact HR.out
    · have h1 : ¬ m < 500 := by omega
      go_enter Try.func10, Try.ntmps10
      go_wp2_with fail
      go_ret
      exact HR.out
    · subst h
      by_cases h1 : m < 500
      · go_enter Try.func10, Try.ntmps10
        go_wp2_with fail
        go_ret
        exact HR.out
      · by_cases h2 : 520 < m
        · go_enter Try.func10, Try.ntmps10
          go_wp2_with fail
          go_ret
          exact HR.out
        · go_enter Try.func10, Try.ntmps10
          go_wp2_with fail
          go_ret
          exact HR.out
  · obtain ⟨M, rfl⟩ : ∃ M : Nat, m = (M : Int) := ⟨m.toNat, by omega⟩
    have HM := Lib.hid (show 500 ≤ M ∧ M ≤ 520 ∧ 0 < N by omega)
    have HNN := Lib.hid hN
    have HS := Lib.hid hS
    obtain ⟨f, hf⟩ : ∃ f : Nat → List Int, f = fun k => (List.range k).map fun i => ws.getD (i % ws.length) 0 := ⟨_, rfl⟩
    have HE : Hid (lonL ws (M : Int) = f M) := by
      show _ = _
      rw [hf]
      exact if_neg (by rw [hN]; exact hm)
    have HF0 : Hid (f 0 = []) := by rw [hf]; rfl
    have HFL : Hid (∀ k, (f k).length = k) := fun k => by rw [hf]; simp
    have HFN : Hid (∀ k, f (k + 1) = f k ++ [ws.getD (k % N) 0]) := fun k => by rw [hf]; have := lonL_up ws k; rw [hN] at this ⊢; exact this
    have g1 : ¬ (M : Int) < 500 := by omega
    have g2 : ¬ (520 : Int) < (M : Int) := by omega
    have g3 : ¬ N = 0 := by omega
    have g4 : ((N : Int) == 0) = false := by simp; omega
    have g5 : ¬ M < 500 := by omega
    have g6 : ¬ 520 < M := by omega
    have g7 : (N == 0) = false := by simp; omega
    have g8 : ¬ (N : Int) = 0 := by omega
    clear hS hN hm hf
    go_enter Try.func10, Try.ntmps10
    go_wp2_with fail
    go_loopw [5, 6] (fun v x wr => ∃ (k c' : Nat) (A' : Option Addr), v = .slice A' k c' ∧ x = .int .i64 (k : Int) ∧ k ≤ M ∧ Own eI 3 w.heap.size wr (.slice A' k c') (f k) ∧ Below w.heap.size w wr) (fun _ x _ => M - (RowKit.intOf x).toNat)
    case atStart => exact ⟨0, 0, none, rfl, rfl, Nat.zero_le _, by rw [HF0.out]; exact Own.nil _ _ _ _, Below.refl _ _⟩
    case round =>
      obtain ⟨k, c', A', rfl, rfl, hk, hown, hbel⟩ := hrel
      have HO := Lib.hid hown
      have HB := Lib.hid hbel
      clear hown hbel
      rcases Nat.lt_or_ge k M with hlt | hge
      · have HLT := Lib.hid hlt
        obtain ⟨r, hr⟩ : ∃ r, r = k % N := ⟨_, rfl⟩
        have hrN : r < N := hr ▸ Nat.mod_lt _ HM.out.2.2
        obtain ⟨z, hz⟩ := get_lt (L := ws) (k := r) (by rw [HNN.out]; exact hrN)
        obtain ⟨b, off, hA, hb, hcell⟩ := (HS.out.on HB.out) r z hz
        obtain rfl := hA
        have HZ : Hid (ws.getD (k % N) 0 = z) := by
          show _ = _
          rw [← hr, List.getD_eq_getElem?_getD, hz]; rfl
        have hk1 : IntKind.i64.wrap ((k : Int) + 1) = ((k + 1 : Nat) : Int) := wrap_id (by have := HM.out; omega)
        have hm1 : (k : Int) % (N : Int) = (r : Int) := by rw [hr]; simp
        have hm2 : (k : Int).tmod (N : Int) = (r : Int) := by rw [Int.tmod_eq_emod_of_nonneg (by omega), hm1]
        have hm3 : IntKind.i64.wrap (r : Int) = (r : Int) := wrap_id (by have := HM.out; omega)
        have i1 : (k : Int) < (M : Int) := by omega
        have i2 : (r : Int) < (N : Int) := by omega
        have i3 : (0 : Int) ≤ (r : Int) := by omega
        clear hk hlt hr hrN hz
        go_wp2_with (at_builtin; refine append_int rfl _ _ rfl w.heap.size (.slice A' k c') (f k) rfl (HO.out.alloc _) wr.heap.size 1 z rfl (by simp) (by have := HM.out; have := HLT.out; rw [HFL.out]; omega) (Nat.le_trans HB.out.size (below_alloc _ _).size) ?_; intro v' w6 hown' hg' hat; refine Hid.out ?_)
        have HBA := Lib.hid (below_alloc wr (.cells #[.int .i64 z] 3))
        have HB6 : Hid (Below w.heap.size w w6) := HB.out.trans ((HBA.out.mono HB.out.size).trans (Own.below (HO.out.alloc _) hg' (Nat.le_trans HB.out.size HBA.out.size)))
        obtain ⟨A6, c6, rfl, -, -⟩ := hown'.inS.open_
        have e6 : (f k ++ [z]).length = k + 1 := by rw [List.length_append, HFL.out]; rfl
        have e7 : f k ++ [z] = f (k + 1) := by rw [HFN.out, HZ.out]
        rw [e6, e7] at hown'
        rw [e6]
        have HO6 := Lib.hid hown'
        clear hown' hg' hat e6 e7 HBA
        refine Lib.hid ?_
        go_wp2_with fail
        go_roundw
        case rel => exact ⟨k + 1, c6, A6, rfl, rfl, HLT.out, HO6.out, HB6.out⟩
        case measure =>
          have := HLT.out
          simp [RowKit.intOf]; omega
      · obtain rfl : M = k := by omega
        have HR : Hid (LonR (lonL ws (M : Int)) w (.returned (.slice A' M c')) wr) := ⟨A', M, c', rfl, by rw [HE.out]; exact HFL.out M, by have := HM.out; omega, by rw [HE.out]; exact own_cl HO.out, HB.out⟩
        clear hk hge
        go_wp2_with fail
        go_ret
        exact HR.out

set_option maxHeartbeats 3200000 in
theorem walk_ShareSplits (w : World) (t : Int) (A : Option Addr) (n c : Nat) (zs : List Int) (h : InInts .i64 w A n c zs) (m : Int) :
    Calls Try.prog 3 #[.int .i64 t, .slice A n c, .int .i64 m] w fun e w' => e = .returned (.bool true) ∧ Below w.heap.size w w' := by
  obtain ⟨hcl, hn, hl⟩ := in_cl h
  have HCL := Lib.hid hcl
  have HN := Lib.hid hn
  clear h hcl hn
  rcases Nat.lt_or_ge 60 n with hlt | hge
  · have i1 : (60 : Int) < (n : Int) := by omega
    have i2 : 60 < n := hlt
    clear hlt
    go_enter Try.func3, Try.ntmps3
    go_wp2_with fail
    refine (share_awake _).mono ?_
    rintro e w1 ⟨rfl, hb⟩
    have HB := Lib.hid hb
    clear hb
    go_wp2_with fail
    go_ret
    exact ⟨rfl, HB.out⟩
  · have i1 : ¬ (60 : Int) < (n : Int) := by omega
    have i2 : ¬ 60 < n := by omega
    clear hge
    go_enter Try.func3, Try.ntmps3
    go_wp2_with fail
    refine (longer_run zs m n HN.out A c w HCL.out hl).mono ?_
    rintro e w1 ⟨A1, k, c1, rfl, hk, hkl, hc1, hb1⟩
    have HK := Lib.hid hk
    have HKL := Lib.hid hkl
    have HC1 := Lib.hid hc1
    have HB1 := Lib.hid hb1
    obtain ⟨L, hL⟩ : ∃ L, L = lonL zs m := ⟨_, rfl⟩
    rw [← hL] at HK HC1
    clear hk hkl hc1 hb1 hL
    obtain ⟨P, hP⟩ : ∃ P, P = splL t L := ⟨_, rfl⟩
    obtain ⟨Q, hQ⟩ : ∃ Q, Q = bouL t L := ⟨_, rfl⟩
    obtain ⟨E, hE⟩ : ∃ E, E = errS t L := ⟨_, rfl⟩
    have HSP := Lib.hid (fun W (hW : Below w1.heap.size w1 W) => split_n t L k HK.out A1 c1 W (HC1.out.on hW) HKL.out)
    have HRS := Lib.hid (fun W (hW : Below w1.heap.size w1 W) => rsplit_n t L k HK.out A1 c1 W (HC1.out.on hW) HKL.out)
    have HBO := Lib.hid (fun W (hW : Below w1.heap.size w1 W) => bounds_n t L k HK.out A1 c1 W (HC1.out.on hW) HKL.out)
    have HRB := Lib.hid (fun W (hW : Below w1.heap.size w1 W) => rbounds_n t L k HK.out A1 c1 W (HC1.out.on hW) HKL.out)
    rw [← hP, ← hE] at HSP HRS
    rw [← hQ, ← hE] at HBO HRB
    clear hP hQ hE
    go_wp2_with fail
    refine (HSP.out w1 (Below.refl _ _)).mono ?_
    intro e w2 hr
    obtain ⟨A2, n2, c2, rfl, hn2, hl2, -, hc2, hb2⟩ := hr.open_
    have H2 := Lib.hid (show P.length = n2 ∧ n2 ≤ 9223372036854775807 from ⟨hn2, hl2⟩)
    have HC2 := Lib.hid hc2
    have HB2 := Lib.hid hb2
    clear hr hn2 hl2 hc2 hb2
    go_wp2_with fail
    refine (HRS.out w2 HB2.out).mono ?_
    intro e w3 hr
    obtain ⟨A3, n3, c3, rfl, hn3, hl3, -, hc3, hb3⟩ := hr.open_
    obtain rfl : n2 = n3 := H2.out.1.symm.trans hn3
    have HC3 := Lib.hid hc3
    have HB3 := Lib.hid hb3
    clear hr hn3 hl3 hc3 hb3
    go_wp2_with fail
    refine (HBO.out w3 (bstep HB2.out HB3.out)).mono ?_
    intro e w4 hr
    obtain ⟨A4, n4, c4, rfl, hn4, hl4, -, hc4, hb4⟩ := hr.open_
    have H4 := Lib.hid (show Q.length = n4 ∧ n4 ≤ 9223372036854775807 from ⟨hn4, hl4⟩)
    have HC4 := Lib.hid hc4
    have HB4 := Lib.hid hb4
    clear hr hn4 hl4 hc4 hb4
    go_wp2_with fail
    refine (HRB.out w4 (bstep (bstep HB2.out HB3.out) HB4.out)).mono ?_
    intro e w5 hr
    obtain ⟨A5, n5, c5, rfl, hn5, hl5, -, hc5, hb5⟩ := hr.open_
    obtain rfl : n4 = n5 := H4.out.1.symm.trans hn5
    have HC5 := Lib.hid hc5
    have HB5 := Lib.hid hb5
    clear hr hn5 hl5 hc5 hb5
    go_wp2_with fail
    refine (same_yes P n2 H2.out.1 A2 A3 c2 c3 w5 (HC2.out.on (bstep (bstep HB3.out HB4.out) HB5.out)) (HC3.out.on (bstep HB4.out HB5.out)) H2.out.2).mono ?_
    rintro e w6 ⟨rfl, hb6⟩
    have HB6 := Lib.hid hb6
    clear hb6
    go_wp2_with fail
    refine (same_yes Q n4 H4.out.1 A4 A5 c4 c5 w6 (HC4.out.on (bstep HB5.out HB6.out)) (HC5.out.on HB6.out) H4.out.2).mono ?_
    rintro e w7 ⟨rfl, hb7⟩
    have HB7 := Lib.hid hb7
    clear hb7
    go_wp2_with fail
    refine (share_awake _).mono ?_
    rintro e w8 ⟨rfl, hb8⟩
    have HB8 := Lib.hid hb8
    clear hb8
    go_wp2_with fail
    go_ret
    exact ⟨rfl, bstep HB1.out (bstep (bstep (bstep (bstep (bstep (bstep HB2.out HB3.out) HB4.out) HB5.out) HB6.out) HB7.out) HB8.out)⟩

set_option maxHeartbeats 3200000 in
theorem walk_ShareEvens (w : World) (t m : Int) :
    Calls Try.prog 4 #[.int .i64 t, .int .i64 m] w fun e w' => e = .returned (.bool true) ∧ Below w.heap.size w w' := by
  obtain ⟨P, hP⟩ : ∃ P, P = evL t m := ⟨_, rfl⟩
  obtain ⟨E, hE⟩ : ∃ E, E = evE t m := ⟨_, rfl⟩
  have HEV := Lib.hid (fun W => share_even t m W)
  have HRE := Lib.hid (fun W => ref_even t m W)
  rw [← hP, ← hE] at HEV HRE
  by_cases hm : m < 1 ∨ 512 < m
  · clear hP hE
    rcases hm with h | h
    · go_enter Try.func4, Try.ntmps4
      go_wp2_with fail
      refine (HEV.out w).mono ?_
      intro e w1 hr
      obtain ⟨A1, n1, c1, rfl, hn1, hl1, -, hc1, hb1⟩ := hr.open_
      have H1 := Lib.hid (show P.length = n1 ∧ n1 ≤ 9223372036854775807 from ⟨hn1, hl1⟩)
      have HC1 := Lib.hid hc1
      have HB1 := Lib.hid hb1
      clear hr hn1 hl1 hc1 hb1
      go_wp2_with fail
      refine (HRE.out w1).mono ?_
      intro e w2 hr
      obtain ⟨A2, n2, c2, rfl, hn2, hl2, -, hc2, hb2⟩ := hr.open_
      obtain rfl : n1 = n2 := H1.out.1.symm.trans hn2
      have HC2 := Lib.hid hc2
      have HB2 := Lib.hid hb2
      clear hr hn2 hl2 hc2 hb2
      go_wp2_with fail
      refine (same_yes P n1 H1.out.1 A1 A2 c1 c2 w2 (HC1.out.on HB2.out) HC2.out H1.out.2).mono ?_
      rintro e w3 ⟨rfl, hb3⟩
      have HB3 := Lib.hid hb3
      clear hb3
      go_wp2_with fail
      refine (share_awake _).mono ?_
      rintro e w5 ⟨rfl, hb5⟩
      have HB5 := Lib.hid hb5
      clear hb5
      go_wp2_with fail
      go_ret
      exact ⟨rfl, bstep (bstep (bstep HB1.out HB2.out) HB3.out) HB5.out⟩
    · have h1 : ¬ m < 1 := by omega
      go_enter Try.func4, Try.ntmps4
      go_wp2_with fail
      refine (HEV.out w).mono ?_
      intro e w1 hr
      obtain ⟨A1, n1, c1, rfl, hn1, hl1, -, hc1, hb1⟩ := hr.open_
      have H1 := Lib.hid (show P.length = n1 ∧ n1 ≤ 9223372036854775807 from ⟨hn1, hl1⟩)
      have HC1 := Lib.hid hc1
      have HB1 := Lib.hid hb1
      clear hr hn1 hl1 hc1 hb1
      go_wp2_with fail
      refine (HRE.out w1).mono ?_
      intro e w2 hr
      obtain ⟨A2, n2, c2, rfl, hn2, hl2, -, hc2, hb2⟩ := hr.open_
      obtain rfl : n1 = n2 := H1.out.1.symm.trans hn2
      have HC2 := Lib.hid hc2
      have HB2 := Lib.hid hb2
      clear hr hn2 hl2 hc2 hb2
      go_wp2_with fail
      refine (same_yes P n1 H1.out.1 A1 A2 c1 c2 w2 (HC1.out.on HB2.out) HC2.out H1.out.2).mono ?_
      rintro e w3 ⟨rfl, hb3⟩
      have HB3 := Lib.hid hb3
      clear hb3
      go_wp2_with fail
      refine (share_awake _).mono ?_
      rintro e w5 ⟨rfl, hb5⟩
      have HB5 := Lib.hid hb5
      clear hb5
      go_wp2_with fail
      go_ret
      exact ⟨rfl, bstep (bstep (bstep HB1.out HB2.out) HB3.out) HB5.out⟩
  · obtain ⟨N, rfl⟩ : ∃ N : Nat, m = (N : Int) := ⟨m.toNat, by omega⟩
    have HN := Lib.hid (show 1 ≤ N ∧ N ≤ 512 by omega)
    have hev := ev_in (t := t) HN.out.1 HN.out.2
    have HSP := Lib.hid (fun (A : Option Addr) (c : Nat) (W : World) (hS : Cl eI W A (List.replicate N 1)) => split_n t (List.replicate N 1) N (by simp) A c W hS (by have := HN.out; omega))
    rw [← hev.1, ← hev.2, ← hP, ← hE] at HSP
    have h1 : ¬ (N : Int) < 1 := by omega
    have h2 : ¬ (512 : Int) < (N : Int) := by omega
    have h3 : 1 ≤ N := HN.out.1
    have h4 : ¬ 512 < N := by have := HN.out; omega
    have hmk := fun W => make_ints N (by have := HN.out; omega) W
    clear hev hm hP hE
    go_enter Try.func4, Try.ntmps4
    go_wp2_with fail
    refine (HEV.out w).mono ?_
    intro e w1 hr
    obtain ⟨A1, n1, c1, rfl, hn1, hl1, -, hc1, hb1⟩ := hr.open_
    have H1 := Lib.hid (show P.length = n1 ∧ n1 ≤ 9223372036854775807 from ⟨hn1, hl1⟩)
    have HC1 := Lib.hid hc1
    have HB1 := Lib.hid hb1
    clear hr hn1 hl1 hc1 hb1
    go_wp2_with fail
    refine (HRE.out w1).mono ?_
    intro e w2 hr
    obtain ⟨A2, n2, c2, rfl, hn2, hl2, -, hc2, hb2⟩ := hr.open_
    obtain rfl : n1 = n2 := H1.out.1.symm.trans hn2
    have HC2 := Lib.hid hc2
    have HB2 := Lib.hid hb2
    clear hr hn2 hl2 hc2 hb2
    go_wp2_with fail
    refine (same_yes P n1 H1.out.1 A1 A2 c1 c2 w2 (HC1.out.on HB2.out) HC2.out H1.out.2).mono ?_
    rintro e w3 ⟨rfl, hb3⟩
    have HB3 := Lib.hid hb3
    clear hb3
    go_upto_region 8 with fail
    have HOP0 := Lib.hid (one_made w3 N (by have := HN.out; omega))
    have HBC0 := Lib.hid (below_alloc w3 (zeros N))
    obtain ⟨w4, hw4⟩ : ∃ W, w3.alloc (zeros N) = W := ⟨_, rfl⟩
    obtain ⟨gp, hgp⟩ : ∃ g, w3.heap.size = g := ⟨_, rfl⟩
    have HGP := Lib.hid hgp
    have HBC : Hid (Below gp w3 w4) := hgp ▸ hw4 ▸ HBC0.out
    have HOP : Hid (Own eI 3 gp w4 (.slice (some ⟨gp, 0, none⟩) N N) (lst (fun _ => 0) N)) := hgp ▸ hw4 ▸ HOP0.out
    rw [hw4, hgp]
    clear hw4 hgp hmk HOP0 HBC0
    obtain ⟨f, hf⟩ : ∃ f : Nat → Nat, f = fun _ => 1 := ⟨_, rfl⟩
    have HF1 : Hid (∀ k, (f k : Int) = 1) := fun k => by rw [hf]; rfl
    have HFN : Hid (upL f N N = List.replicate N 1) := by
      show _ = _
      rw [upL_all, hf]; unfold lst; rw [List.map_const', List.length_range]; rfl
    clear hf
    go_wp2_with fail
    go_loopw [10] (fun x wr => ∃ k : Nat, x = .int .i64 (k : Int) ∧ k ≤ N ∧ Own eI 3 gp wr (.slice (some ⟨gp, 0, none⟩) N N) (upL f k N) ∧ Below gp w3 wr) (fun x _ => N - (RowKit.intOf x).toNat)
    case atStart => exact ⟨0, rfl, Nat.zero_le _, by rw [upL_zero]; exact HOP.out, HBC.out⟩
    case round =>
      obtain ⟨k, rfl, hk, hop, hbel⟩ := hrel
      have HOP2 := Lib.hid hop
      have HB := Lib.hid hbel
      clear hop hbel
      rcases Nat.lt_or_ge k N with hlt | hge
      · have cp := HOP2.out.cell (upL_at f hlt)
        have fp := HOP2.out.warm (upL_len f k N).symm k
        have HPP : Hid (Own eI 3 gp (wr.setCell ⟨gp, k, none⟩ (.int .i64 1)) (.slice (some ⟨gp, 0, none⟩) N N) (upL f (k + 1) N)) := by
          have h1 := HOP2.out.set (upL_len f k N).symm k (f k : Int)
          rw [upL_set f hlt, HF1.out] at h1
          exact h1
        have HBB : Hid (Below gp w3 (wr.setCell ⟨gp, k, none⟩ (.int .i64 1))) := below_set HB.out (p := ⟨gp, k, none⟩) (Nat.le_refl _) _
        have i1 : (k : Int) < (N : Int) := by omega
        have i2 : (0 : Int) ≤ (k : Int) := by omega
        have hk1 : IntKind.i64.wrap ((k : Int) + 1) = ((k + 1 : Nat) : Int) := wrap_id (by omega)
        have HLT := Lib.hid hlt
        clear hk hlt
        go_wp2_with fail
        go_roundw
        case rel => exact ⟨k + 1, rfl, HLT.out, HPP.out, HBB.out⟩
        case measure =>
          have := HLT.out
          simp [RowKit.intOf]; omega
      · obtain rfl : N = k := by omega
        have hcl := own_cl HOP2.out
        rw [HFN.out] at hcl
        have HSPR := Lib.hid (HSP.out _ N wr hcl)
        have HBR : Hid (Below w3.heap.size w3 wr) := HGP.out.symm ▸ HB.out
        clear hk hge hcl
        go_wp2_with fail
        refine HSPR.out.mono ?_
        intro e w5 hr
        obtain ⟨A5, n5, c5, rfl, hn5, hl5, -, hc5, hb5⟩ := hr.open_
        obtain rfl : n1 = n5 := H1.out.1.symm.trans hn5
        have HC5 := Lib.hid hc5
        have HB5 := Lib.hid hb5
        clear hr hn5 hl5 hc5 hb5
        go_wp2_with fail
        refine (same_yes P n1 H1.out.1 A1 A5 c1 c5 w5 (HC1.out.on (bstep (bstep (bstep HB2.out HB3.out) HBR.out) HB5.out)) HC5.out H1.out.2).mono ?_
        rintro e w6 ⟨rfl, hb6⟩
        have HB6 := Lib.hid hb6
        clear hb6
        go_wp2_with fail
        refine (share_awake _).mono ?_
        rintro e w7 ⟨rfl, hb7⟩
        have HB7 := Lib.hid hb7
        clear hb7
        go_wp2_with fail
        go_ret
        exact ⟨rfl, bstep (bstep (bstep (bstep (bstep (bstep HB1.out HB2.out) HB3.out) HBR.out) HB5.out) HB6.out) HB7.out⟩
end Go.Proofs.Ytdolhanniiejfaa.Share
/- The walks of ShareFairs and ShareOrder. -/
namespace Go.Proofs.Ytdolhanniiejfaa.Share
open Go.ChangeShapes Go.WideShapes Go.RowKit Go.Lib Go.Proofs.Ytdolhanniiejfaa.Mem
set_option linter.unusedVariables false
set_option maxRecDepth 100000

theorem fairB_split {t : Int} {ws : List Int} (h : errS t ws = 0) : fairB (splL t ws) ws = true := by
  have e := splL_sum h
  have ok : FairOk (splL t ws) ws := ⟨splL_len h, splL_pos, by rw [e]; exact (Ok.of h).t1⟩
  rw [fairB_in ok, e, h]
  simp
theorem splL_le {t : Int} {ws : List Int} (h : errS t ws = 0) {i : Nat} {z : Int} (hz : (splL t ws)[i]? = some z) : 0 ≤ z ∧ z ≤ 1125899906842624 := by
  refine ⟨splL_pos z (List.mem_of_getElem? hz), ?_⟩
  have ok := Ok.of h
  have e : splL t ws = lst (fun i => (part t.toNat (wf ws) ws.length i : Int)) ws.length := by unfold splL; rw [if_pos h]; rfl
  rw [e] at hz
  have hi : i < ws.length := by have := lt_of_get hz; rwa [lst_len] at this
  rw [lst_at _ hi] at hz
  cases hz
  have h1 := ok.part_le hi
  have h2 := ok.t1
  have hm : mx = 1125899906842624 := rfl
  omega

set_option maxHeartbeats 3200000 in
theorem walk_ShareFairs (w : World) (A : Option Addr) (n c : Nat) (ps : List Int) (h : InInts .i64 w A n c ps) (B : Option Addr) (m d : Nat) (ws : List Int) (k : InInts .i64 w B m d ws) (t : Int) :
    Calls Try.prog 5 #[.slice A n c, .slice B m d, .int .i64 t] w fun e w' => e = .returned (.bool true) ∧ Below w.heap.size w w' := by
  obtain ⟨hcl, hn, hl⟩ := in_cl h
  obtain ⟨kcl, km, kl⟩ := in_cl k
  by_cases hbig : 60 < n ∨ 60 < m
  · clear h k hcl kcl hn km
    by_cases h1 : 60 < n
    · have i1 : (60 : Int) < (n : Int) := by omega
      go_enter Try.func5, Try.ntmps5
      go_wp2_with fail
      refine (share_awake _).mono ?_
      rintro e w1 ⟨rfl, hb⟩
      have HB := Lib.hid hb
      clear hb
      go_wp2_with fail
      go_ret
      exact ⟨rfl, HB.out⟩
    · have i1 : ¬ (60 : Int) < (n : Int) := by omega
      have i2 : (60 : Int) < (m : Int) := by omega
      have i3 : 60 < m := by omega
      go_enter Try.func5, Try.ntmps5
      go_wp2_with fail
      refine (share_awake _).mono ?_
      rintro e w1 ⟨rfl, hb⟩
      have HB := Lib.hid hb
      clear hb
      go_wp2_with fail
      go_ret
      exact ⟨rfl, HB.out⟩
  · have HA := Lib.hid hcl
    have HBB := Lib.hid kcl
    have HN := Lib.hid hn
    have HM := Lib.hid km
    have i1 : ¬ (60 : Int) < (n : Int) := by omega
    have i2 : ¬ (60 : Int) < (m : Int) := by omega
    have i3 : ¬ 60 < n := by omega
    have i4 : ¬ 60 < m := by omega
    obtain ⟨f, hf⟩ : ∃ f, f = fairB ps ws := ⟨_, rfl⟩
    have HF1 := Lib.hid (share_fair ps ws n m hn km A B c d w hcl kcl hl kl)
    have HF2 := Lib.hid (fun W (hW : Below w.heap.size w W) => ref_fair ps ws n m hn km A B c d W (hcl.on hW) (kcl.on hW) hl kl)
    have HG1 := Lib.hid (fun W (hW : Below w.heap.size w W) (C : Option Addr) (L : List Int) (q cc : Nat) (hL : L.length = q) (hC : Cl eI W C L) (hq : q ≤ 9223372036854775807) => share_fair L ws q m hL km C B cc d W hC (kcl.on hW) hq kl)
    have HG2 := Lib.hid (fun W (hW : Below w.heap.size w W) (C : Option Addr) (L : List Int) (q cc : Nat) (hL : L.length = q) (hC : Cl eI W C L) (hq : q ≤ 9223372036854775807) => ref_fair L ws q m hL km C B cc d W hC (kcl.on hW) hq kl)
    have HSP := Lib.hid (fun W (hW : Below w.heap.size w W) => split_n t ws m km B d W (kcl.on hW) kl)
    rw [← hf] at HF1 HF2
    have hff : (f != f) = false := by simp
    have hff2 : (f == f) = true := by simp
    clear h k hcl kcl hn km hbig hf
    go_enter Try.func5, Try.ntmps5
    go_wp2_with fail
    refine HF1.out.mono ?_
    rintro e w1 ⟨rfl, hb1⟩
    have HB1 := Lib.hid hb1
    clear hb1
    go_wp2_with fail
    refine (HF2.out w1 HB1.out).mono ?_
    rintro e w2 ⟨rfl, hb2⟩
    have HB2 : Hid (Below w.heap.size w w2) := bstep HB1.out hb2
    clear hb2
    have HSP2 := Lib.hid (HSP.out w2 HB2.out)
    by_cases hE : errS t ws = 0
    · rw [hE] at HSP2
      have HE := Lib.hid hE
      have HFS := Lib.hid (fairB_split hE)
      have hz0 : ((0 : Nat) : Int) = 0 := rfl
      obtain ⟨L, hL⟩ : ∃ L, L = splL t ws := ⟨_, rfl⟩
      have HLL := Lib.hid (show L.length = m ∧ 0 < m by rw [hL, splL_len hE, ← HM.out]; exact ⟨rfl, (Ok.of hE).n0⟩)
      have HZ := Lib.hid (show ∀ z, L[0]? = some z → 0 ≤ z ∧ z ≤ 1125899906842624 from fun z hz => splL_le hE (hL ▸ hz))
      rw [← hL] at HSP2 HFS
      clear hE hL
      go_wp2_with fail
      refine HSP2.out.mono ?_
      intro e w3 hr
      obtain ⟨A3, n3, c3, rfl, hn3, hl3, ho3, hc3, hb3⟩ := hr.open_
      obtain rfl : m = n3 := HLL.out.1.symm.trans hn3
      obtain ⟨g, cap, e3, hg0, hg1, hg2⟩ := ho3.blk (by rw [HLL.out.1]; exact HLL.out.2)
      obtain rfl : A3 = some ⟨g, 0, none⟩ := (Value.slice.inj e3).1
      have HO3 := Lib.hid ho3
      have HB3 : Hid (Below w.heap.size w w3) := bstep HB2.out hb3
      have HC3 := Lib.hid hc3
      have hG3 := HG1.out w3 HB3.out (some ⟨g, 0, none⟩) L m c3 HLL.out.1 hc3 kl
      rw [HFS.out] at hG3
      have HG3 := Lib.hid hG3
      have HGG := Lib.hid (show w.heap.size ≤ g from Nat.le_trans HB2.out.size hg0)
      clear hr hn3 hl3 ho3 hc3 hb3 e3 hg0 hg1 hg2 hG3
      rw [hz0]
      clear hz0
      go_wp2_with fail
      refine HG3.out.mono ?_
      rintro e w4 ⟨rfl, hb4⟩
      have HO4 := Lib.hid (HO3.out.on hb4)
      have HB4 : Hid (Below w.heap.size w w4) := bstep HB3.out hb4
      clear hb4
      obtain ⟨z, hz⟩ := get_lt (L := L) (k := 0) (by rw [HLL.out.1]; exact HLL.out.2)
      have cz := HO4.out.cell hz
      have fz := HO4.out.warm HLL.out.1.symm 0
      obtain ⟨z0, z1⟩ := HZ.out z hz
      obtain ⟨z', hz'⟩ : ∃ x, x = z + 1 := ⟨_, rfl⟩
      have hw : IntKind.i64.wrap (z + 1) = z' := by rw [wrap_id (by omega)]; omega
      have i5 : (0 : Int) < (m : Int) := by have := HLL.out; omega
      have i6 : 0 < m := HLL.out.2
      have HS : Hid (Own eI 3 w2.heap.size (w4.setCell ⟨g, 0, none⟩ (.int .i64 z')) (.slice (some ⟨g, 0, none⟩) m c3) (L.set 0 z')) := HO4.out.set HLL.out.1.symm 0 z'
      have HBS : Hid (Below w.heap.size w (w4.setCell ⟨g, 0, none⟩ (.int .i64 z'))) := below_set HB4.out (p := ⟨g, 0, none⟩) HGG.out _
      have HLS : Hid ((L.set 0 z').length = m) := List.length_set.trans HLL.out.1
      clear hz z0 z1 hz'
      go_upto_region 12 with fail
      obtain ⟨w5, hw5⟩ : ∃ W, w4.setCell ⟨g, 0, none⟩ (.int .i64 z') = W := ⟨_, rfl⟩
      obtain ⟨L5, hL5⟩ : ∃ L5, L5 = L.set 0 z' := ⟨_, rfl⟩
      rw [hw5] at HS HBS ⊢
      rw [← hL5] at HS HLS
      have HG5 := Lib.hid (HG1.out w5 HBS.out (some ⟨g, 0, none⟩) L5 m c3 HLS.out HS.out.cl kl)
      have HG6 := Lib.hid (fun W (hW : Below w5.heap.size w5 W) => HG2.out W (bstep HBS.out hW) (some ⟨g, 0, none⟩) L5 m c3 HLS.out (HS.out.on hW).cl kl)
      obtain ⟨f5, hf5⟩ : ∃ f, f = fairB L5 ws := ⟨_, rfl⟩
      rw [← hf5] at HG5 HG6
      have hff5 : (f5 == f5) = true := by simp
      clear hw5 hL5 hf5 cz fz hw
      go_wp2_with fail
      refine HG5.out.mono ?_
      rintro e w6 ⟨rfl, hb6⟩
      have HB6 := Lib.hid hb6
      clear hb6
      go_wp2_with fail
      refine (HG6.out w6 HB6.out).mono ?_
      rintro e w7 ⟨rfl, hb7⟩
      have HB7 : Hid (Below w.heap.size w w7) := bstep HBS.out (bstep HB6.out hb7)
      clear hb7
      go_wp2_with fail
      refine (share_awake _).mono ?_
      rintro e w8 ⟨rfl, hb8⟩
      have HB8 := Lib.hid hb8
      clear hb8
      go_wp2_with fail
      go_ret
      exact ⟨rfl, bstep HB7.out HB8.out⟩
    · obtain ⟨E, hEE⟩ : ∃ E, E = errS t ws := ⟨_, rfl⟩
      have hE1 : ((E : Int) != 0) = true := by simp; omega
      have hE3 : ¬ (E : Int) = 0 := by omega
      rw [← hEE] at HSP2
      clear hE hEE
      go_wp2_with fail
      refine HSP2.out.mono ?_
      intro e w3 hr
      obtain ⟨A3, n3, c3, rfl, hn3, hl3, -, -, hb3⟩ := hr.open_
      have HB3 : Hid (Below w.heap.size w w3) := bstep HB2.out hb3
      clear hr hn3 hl3 hb3
      go_wp2_with fail
      refine (share_awake _).mono ?_
      rintro e w8 ⟨rfl, hb8⟩
      have HB8 := Lib.hid hb8
      clear hb8
      go_wp2_with fail
      go_ret
      exact ⟨rfl, bstep HB3.out HB8.out⟩
end Go.Proofs.Ytdolhanniiejfaa.Share
/- Natural numbers of many limbs: lists, values, the canonical limbs; slices that hold them. No walk. -/
namespace Go.Proofs.Ytdolhanniiejfaa
open Go.ChangeShapes Go.WideShapes Go.RowKit
set_option linter.unusedVariables false
set_option maxRecDepth 100000

theorem ret_int {k : IntKind} {a b : Int} (h : a = b) : Ending.returned (.int k a) = .returned (.int k b) := by rw [h]

/-- What a list of limbs stands for. -/
def nval : List Int → Int
  | [] => 0
  | x :: l => x + 1000000000 * nval l
theorem nval_snoc (l : List Int) (z : Int) : nval (l ++ [z]) = nval l + 1000000000 ^ l.length * z := by
  induction l with
  | nil => simp [nval]
  | cons a l ih => simp only [List.cons_append, nval, ih, List.length_cons, Int.pow_succ]; rw [Int.mul_add, Int.mul_comm (1000000000 ^ l.length) 1000000000, Int.mul_assoc]; omega
theorem nval_append (l m : List Int) : nval (l ++ m) = nval l + 1000000000 ^ l.length * nval m := by
  induction l with
  | nil => simp [nval]
  | cons a l ih => simp only [List.cons_append, nval, ih, List.length_cons, Int.pow_succ]; rw [Int.mul_add, Int.mul_comm (1000000000 ^ l.length) 1000000000, Int.mul_assoc]; omega

/-- Each limb is from 0 to Limb - 1. -/
def lok (l : List Int) : Bool := l.all fun x => decide (0 ≤ x) && decide (x < 1000000000)
theorem lok_nil : lok [] = true := rfl
theorem lok_cons {x : Int} {l : List Int} : lok (x :: l) = true ↔ (0 ≤ x ∧ x < 1000000000) ∧ lok l = true := by simp [lok]
theorem lok_append {l m : List Int} : lok (l ++ m) = true ↔ lok l = true ∧ lok m = true := by simp [lok]
theorem lok_take {l : List Int} (h : lok l = true) (k : Nat) : lok (l.take k) = true := by
  simp only [lok, List.all_eq_true] at h ⊢; exact fun x hx => h x (List.mem_of_mem_take hx)
theorem lok_drop {l : List Int} (h : lok l = true) (k : Nat) : lok (l.drop k) = true := by
  simp only [lok, List.all_eq_true] at h ⊢; exact fun x hx => h x (List.mem_of_mem_drop hx)
theorem lok_at {l : List Int} (h : lok l = true) {k : Nat} {z : Int} (hz : l[k]? = some z) : 0 ≤ z ∧ z < 1000000000 := by
  simp only [lok, List.all_eq_true] at h
  simpa using h z (List.mem_of_getElem? hz)
theorem lok_getD {l : List Int} (h : lok l = true) (k : Nat) : 0 ≤ l.getD k 0 ∧ l.getD k 0 < 1000000000 := by
  rw [List.getD_eq_getElem?_getD]
  cases hz : l[k]? with
  | none => simp
  | some z => exact lok_at h hz
theorem nval_nonneg {l : List Int} (h : lok l = true) : 0 ≤ nval l := by
  induction l with
  | nil => simp [nval]
  | cons a l ih => rw [lok_cons] at h; have := ih h.2; simp only [nval]; omega
theorem nval_lt {l : List Int} (h : lok l = true) : nval l < 1000000000 ^ l.length := by
  induction l with
  | nil => simp [nval]
  | cons a l ih => rw [lok_cons] at h; have := ih h.2; simp only [nval, List.length_cons, Int.pow_succ]; omega
theorem nval_zeros (k : Nat) : nval (List.replicate k 0) = 0 := by
  induction k with
  | zero => rfl
  | succ k ih => simp [List.replicate_succ, nval, ih]
theorem lok_zeros (k : Nat) : lok (List.replicate k 0) = true := by
  induction k with
  | zero => rfl
  | succ k ih => rw [List.replicate_succ, lok_cons]; exact ⟨by omega, ih⟩

/-- The limbs of a number. -/
def limbs (n : Nat) : List Int := if h : n = 0 then [] else ((n % 1000000000 : Nat) : Int) :: limbs (n / 1000000000)
termination_by n
decreasing_by omega
theorem limbs_zero : limbs 0 = [] := by rw [limbs]; simp
theorem limbs_pos {n : Nat} (h : n ≠ 0) : limbs n = ((n % 1000000000 : Nat) : Int) :: limbs (n / 1000000000) := by rw [limbs]; simp [h]
theorem limbs_step {x : Int} {n : Nat} (h0 : 0 ≤ x) (h1 : x < 1000000000) (h : x.toNat + 1000000000 * n ≠ 0) : limbs (x.toNat + 1000000000 * n) = x :: limbs n := by
  rw [limbs_pos h]
  have e1 : (x.toNat + 1000000000 * n) % 1000000000 = x.toNat := by omega
  have e2 : (x.toNat + 1000000000 * n) / 1000000000 = n := by omega
  rw [e1, e2]
  congr 1
  omega
theorem lok_limbs (n : Nat) : lok (limbs n) = true := by
  induction n using Nat.strongRecOn with
  | ind n ih =>
    by_cases h : n = 0
    · subst h; rw [limbs_zero]; rfl
    · rw [limbs_pos h, lok_cons]; exact ⟨by omega, ih _ (by omega)⟩
theorem nval_limbs (n : Nat) : nval (limbs n) = n := by
  induction n using Nat.strongRecOn with
  | ind n ih =>
    by_cases h : n = 0
    · subst h; rw [limbs_zero]; rfl
    · rw [limbs_pos h, nval, ih _ (by omega)]; omega
theorem limbs_inj {m n : Nat} (h : limbs m = limbs n) : m = n := by
  have := congrArg nval h; rw [nval_limbs, nval_limbs] at this; omega

/-- Without the zeros at the end. -/
def trimL : List Int → List Int
  | [] => []
  | x :: l => if trimL l = [] ∧ x = 0 then [] else x :: trimL l
theorem trimL_snoc_zero (l : List Int) : trimL (l ++ [0]) = trimL l := by
  induction l with
  | nil => simp [trimL]
  | cons a l ih => simp only [List.cons_append, trimL, ih]
theorem trimL_snoc {l : List Int} {z : Int} (h : z ≠ 0) : trimL (l ++ [z]) = l ++ [z] := by
  induction l with
  | nil => simp [trimL, h]
  | cons a l ih => simp only [List.cons_append, trimL, ih]; simp
theorem trimL_limbs {l : List Int} (h : lok l = true) : trimL l = limbs (nval l).toNat := by
  induction l with
  | nil => simp [trimL, nval, limbs_zero]
  | cons a l ih =>
    rw [lok_cons] at h
    have hn := nval_nonneg h.2
    have ih := ih h.2
    have e : (nval (a :: l)).toNat = a.toNat + 1000000000 * (nval l).toNat := by simp only [nval]; omega
    rw [e, trimL, ih]
    by_cases hz : a.toNat + 1000000000 * (nval l).toNat = 0
    · have h1 : (nval l).toNat = 0 := by omega
      rw [hz, h1, limbs_zero, if_pos ⟨rfl, by omega⟩]
    · rw [limbs_step h.1.1 h.1.2 hz, if_neg]
      rintro ⟨h1, h2⟩
      have : (nval l).toNat = 0 := limbs_inj (h1.trans limbs_zero.symm)
      omega

/-- In normal form: limbs, the last of which is not 0. -/
def nrm (l : List Int) : Bool := lok l && (l.getLast? != some 0)
theorem trimL_nrm {l : List Int} (h : l.getLast? ≠ some 0) : trimL l = l := by
  rcases List.eq_nil_or_concat l with rfl | ⟨l', z, rfl⟩
  · rfl
  · rw [List.concat_eq_append] at h ⊢
    rw [List.getLast?_append] at h
    exact trimL_snoc (by simpa using h)
theorem nrm_limbs {l : List Int} (h : nrm l = true) : l = limbs (nval l).toNat := by
  simp only [nrm, Bool.and_eq_true, bne_iff_ne] at h
  rw [← trimL_limbs h.1, trimL_nrm h.2]
theorem nrm_trimL {l : List Int} (h : lok l = true) : nrm (trimL l) = true := by
  induction l with
  | nil => rfl
  | cons a l ih =>
    rw [lok_cons] at h
    have ih := ih h.2
    simp only [nrm, Bool.and_eq_true, bne_iff_ne] at ih ⊢
    unfold trimL
    split
    · exact ⟨rfl, by simp⟩
    · rename_i hc
      refine ⟨lok_cons.mpr ⟨h.1, ih.1⟩, ?_⟩
      cases ht : trimL l with
      | nil => simp [ht] at hc ⊢; exact hc
      | cons b m => rw [List.getLast?_cons_cons, ← ht]; exact ih.2
theorem nrm_of_limbs (n : Nat) : nrm (limbs n) = true := by
  have h := nrm_trimL (lok_limbs n)
  rw [trimL_limbs (lok_limbs n), nval_limbs] at h
  simpa using h
theorem nrm_lok {l : List Int} (h : nrm l = true) : lok l = true := by simp only [nrm, Bool.and_eq_true] at h; exact h.1
theorem pow_pos' (k : Nat) : (0 : Int) < 1000000000 ^ k := Int.pow_pos (by decide)
theorem limbs_len_le {n k : Nat} : (limbs n).length ≤ k ↔ n < 1000000000 ^ k := by
  induction k generalizing n with
  | zero =>
    by_cases h : n = 0
    · subst h; rw [limbs_zero]; simp
    · rw [limbs_pos h]; simp; omega
  | succ k ih =>
    by_cases h : n = 0
    · subst h; rw [limbs_zero]; simp [Nat.pow_pos]
    · rw [limbs_pos h, List.length_cons, Nat.succ_le_succ_iff, ih, Nat.div_lt_iff_lt_mul (by decide), Nat.pow_succ]

/-- A valid number. -/
def validB (l : List Int) : Bool := decide (l.length ≤ 48) && nrm l
theorem validB_iff {l : List Int} : validB l = true ↔ l.length ≤ 48 ∧ nrm l = true := by simp [validB]

/-- At the address lie the integers zs, in a block from lo to below hi; where lo is not 0, none of their cells is frozen. -/
def Holds (w : World) (lo hi : Nat) (A : Option Addr) (zs : List Int) : Prop :=
  ∀ k z, zs[k]? = some z → ∃ b off, A = some ⟨b, off, none⟩ ∧ (lo ≤ b ∧ (lo = 0 ∨ w.frozen? ⟨b, off + k, none⟩ = false)) ∧ b < hi ∧ w.cell? ⟨b, off + k, none⟩ = some (.int .i64 z)
/-- A slice value that holds the integers zs, in a block from lo to below hi. -/
def Sl (w : World) (lo hi : Nat) (v : Value) (zs : List Int) : Prop :=
  ∃ A c, v = .slice A zs.length c ∧ zs.length ≤ c ∧ c ≤ maxLen ∧ Holds w lo hi A zs
theorem Holds.keep {w w' : World} {lo hi : Nat} {A : Option Addr} {zs : List Int} (h : Holds w lo hi A zs) (hb : ∀ k, lo ≤ k → k < hi → w'.heap[k]? = w.heap[k]?) : Holds w' lo hi A zs := by
  intro k z hz
  obtain ⟨b, off, hA, hlo, hlt, hc⟩ := h k z hz
  exact ⟨b, off, hA, ⟨hlo.1, hlo.2.imp id fun h => (World.frozen?_of_block (w := w) (a := ⟨b, off + k, none⟩) (hb b hlo.1 hlt)).trans h⟩, hlt, (World.cell?_of_block (w := w) (a := ⟨b, off + k, none⟩) (hb b hlo.1 hlt)).trans hc⟩
theorem Holds.below {w w' : World} {B lo hi : Nat} {A : Option Addr} {zs : List Int} (h : Holds w lo hi A zs) (hb : Below B w w') (hB : hi ≤ B) : Holds w' lo hi A zs :=
  h.keep fun k _ hk => hb.block k (by omega)
theorem Holds.more {w : World} {lo hi lo' hi' : Nat} {A : Option Addr} {zs : List Int} (h : Holds w lo hi A zs) (hl : lo' ≤ lo) (hh : hi ≤ hi') : Holds w lo' hi' A zs := by
  intro k z hz
  obtain ⟨b, off, hA, hlo, hlt, hc⟩ := h k z hz
  exact ⟨b, off, hA, ⟨by omega, hlo.2.imp (by omega) id⟩, by omega, hc⟩
theorem Holds.take {w : World} {lo hi : Nat} {A : Option Addr} {zs : List Int} (h : Holds w lo hi A zs) (n : Nat) : Holds w lo hi A (zs.take n) := by
  intro k z hz
  rw [List.getElem?_take] at hz
  split at hz
  · exact h k z hz
  · cases hz
theorem Holds.nil (w : World) (lo hi : Nat) (A : Option Addr) : Holds w lo hi A [] := by intro k z hz; simp at hz

/-- A block of this call's own whose first cells are the integers zs, and no cell of which is frozen. -/
def Row (w : World) (g : Nat) (zs : List Int) : Prop :=
  ∃ cur t, w.heap[g]? = some (.cells cur t (0, 0)) ∧ ∀ (i : Nat) (z : Int), zs[i]? = some z → cur[i]? = some (Value.int .i64 z)
theorem Row.lt {w : World} {g : Nat} {zs : List Int} (h : Row w g zs) : g < w.heap.size := by
  obtain ⟨cur, t, hg, _⟩ := h; exact lt_of_block hg
theorem Row.cell {w : World} {g : Nat} {zs : List Int} (h : Row w g zs) {i : Nat} {z : Int} (hz : zs[i]? = some z) : w.cell? ⟨g, i, none⟩ = some (.int .i64 z) := by
  obtain ⟨cur, t, hg, hc⟩ := h; rw [cell_of_row w g i cur t (0, 0) hg]; exact hc i z hz
theorem Row.frozen {w : World} {g : Nat} {zs : List Int} (h : Row w g zs) (i : Nat) : w.frozen? ⟨g, i, none⟩ = false := by
  obtain ⟨cur, t, hg, hc⟩ := h; simp [World.frozen?, hg]
theorem Row.keep {w w' : World} {g : Nat} {zs : List Int} (h : Row w g zs) (hk : w'.heap[g]? = w.heap[g]?) : Row w' g zs := by
  obtain ⟨cur, t, hg, hc⟩ := h; exact ⟨cur, t, hk.trans hg, hc⟩
theorem Row.below {w w' : World} {B g : Nat} {zs : List Int} (h : Row w g zs) (hb : Below B w w') (hg : g < B) : Row w' g zs := h.keep (hb.block g hg)
theorem Row.store {w : World} {g : Nat} {zs : List Int} (h : Row w g zs) (i : Nat) (v : Int) : Row (w.setCell ⟨g, i, none⟩ (.int .i64 v)) g (zs.set i v) := by
  obtain ⟨cur, t, hg, hc⟩ := h
  refine ⟨cur.set! i (.int .i64 v), t, by simp [World.setCell, Array.getElem?_modify, hg], fun j z hz => ?_⟩
  rw [List.getElem?_set] at hz
  split at hz
  · rename_i e
    subst e
    split at hz
    · rename_i hlt
      obtain rfl : v = z := by simpa using hz
      have := hc i zs[i] (List.getElem?_eq_getElem hlt)
      have hlt2 : i < cur.size := by
        rcases Nat.lt_or_ge i cur.size with h | h
        · exact h
        · rw [Array.getElem?_eq_none h] at this; cases this
      simp [Array.set!_eq_setIfInBounds, hlt2]
    · cases hz
  · rename_i e
    simp only [Array.set!_eq_setIfInBounds, Array.getElem?_setIfInBounds]
    rw [if_neg e]; exact hc j z hz
theorem Row.other {w : World} {g : Nat} {zs : List Int} (h : Row w g zs) {p : Addr} (hp : p.block ≠ g) (u : Value) : Row (w.setCell p u) g zs :=
  h.keep (Below.heap_setCell w p u g (fun e => hp e.symm))
theorem Row.holds {w : World} {g off : Nat} {zs xs : List Int} (h : Row w g zs) (hx : ∀ k z, xs[k]? = some z → zs[off + k]? = some z) {lo hi : Nat} (h1 : lo ≤ g) (h2 : g < hi) : Holds w lo hi (some ⟨g, off, none⟩) xs :=
  fun k z hz => ⟨g, off, rfl, ⟨h1, Or.inr (h.frozen _)⟩, h2, h.cell (hx k z hz)⟩
theorem Row.take {w : World} {g : Nat} {zs : List Int} (h : Row w g zs) (n : Nat) : Row w g (zs.take n) := by
  obtain ⟨cur, t, hg, hc⟩ := h
  refine ⟨cur, t, hg, fun i z hz => ?_⟩
  rw [List.getElem?_take] at hz
  split at hz
  · exact hc i z hz
  · cases hz
/-- What a call owns (append, make) is such a block, or nil. -/
theorem row_of_owns {w : World} {base e : Nat} {v : Value} {zs : List Int} (h : w.ownsRow base e 1 v zs.length (zs.map (Value.int .i64))) :
    (v = .slice none 0 0 ∧ zs = []) ∨ ∃ g cap, v = .slice (some ⟨g, 0, none⟩) zs.length cap ∧ base ≤ g ∧ zs.length ≤ cap ∧ cap ≤ maxLen ∧ Row w g zs := by
  obtain ⟨h1, ⟨rfl, h2⟩ | ⟨g, cap, cur, rfl, h2, h3, h4, h5, h6, h7⟩⟩ := h
  · exact Or.inl ⟨rfl, List.eq_nil_of_length_eq_zero h2⟩
  · refine Or.inr ⟨g, cap, rfl, h2, h4, h5, cur, e, h3, fun i z hz => ?_⟩
    rw [Nat.mul_one] at h7
    have hi : i < zs.length := by
      rcases Nat.lt_or_ge i zs.length with h | h
      · exact h
      · rw [List.getElem?_eq_none h] at hz; cases hz
    have e1 : (cur.toList.take zs.length)[i]? = some (.int .i64 z) := by rw [h7, List.getElem?_map, hz]; rfl
    rw [List.getElem?_take, if_pos hi, Array.getElem?_toList] at e1
    first | done | exact e1
theorem made_zeros (n : Nat) : (madeCells (Value.int .i64 0).cells (n * 1)).toList = (List.replicate n (0 : Int)).map (Value.int .i64) := by
  have e : ∀ x : Nat, (Value.int .i64 0).cells[x % (Value.int .i64 0).cells.size]! = Value.int .i64 0 := by intro x; simp [Value.cells, Nat.mod_one]
  unfold madeCells
  simp only [e, Nat.mul_one, Array.toList_map, Array.toList_range, List.map_replicate]
  apply List.ext_getElem?
  intro i
  simp only [List.getElem?_map, List.getElem?_replicate]
  split
  · rename_i h; rw [List.getElem?_range h]; rfl
  · rename_i h; rw [List.getElem?_eq_none (by simp; omega)]; rfl
theorem sl_of_owns {w : World} {base e : Nat} {v : Value} {zs : List Int} (h : w.ownsRow base e 1 v zs.length (zs.map (Value.int .i64))) : Sl w base w.heap.size v zs := by
  rcases row_of_owns h with ⟨rfl, rfl⟩ | ⟨g, cap, rfl, h1, h2, h3, h4⟩
  · exact ⟨none, 0, rfl, Nat.le_refl _, by unfold maxLen; omega, fun k z hz => by simp at hz⟩
  · exact ⟨_, cap, rfl, h2, h3, h4.holds (fun k z hz => by simpa using hz) h1 h4.lt⟩
theorem own_block_ge {w : World} {base e size n : Nat} {v : Value} {xs : List Value} (h : w.ownsRow base e size v n xs) : ∀ k, v.ownBlock = some k → base ≤ k := by
  obtain ⟨h1, ⟨rfl, h2⟩ | ⟨g, cap, cur, rfl, h2, _⟩⟩ := h
  · intro k hk; cases hk
  · intro k hk; obtain rfl : g = k := by simpa [Value.ownBlock] using hk
    exact h2
theorem own_snoc {w : World} {base e : Nat} {v : Value} {ds : List Int} {x : Int} (h : w.ownsRow base e 1 v (ds.length + 1) (ds.map (Value.int .i64) ++ [.int .i64 x])) :
    w.ownsRow base e 1 v (ds ++ [x]).length ((ds ++ [x]).map (Value.int .i64)) := by
  rw [List.length_append, List.map_append]; exact h
end Go.Proofs.Ytdolhanniiejfaa
