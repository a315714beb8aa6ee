/- share.Bounds, share.Even. -/
import Derived.Test.YtdolhanniiejfaaShareF
import Derived.Test.YtdolhanniiejfaaMemB
namespace Go.Proofs.Ytdolhanniiejfaa.Share
open Go.ChangeShapes Go.WideShapes Go.RowKit Go.Lib Go.Proofs.Ytdolhanniiejfaa.Mem
set_option linter.unusedVariables false
set_option maxRecDepth 100000

set_option maxHeartbeats 3200000 in
theorem share_bounds (t : Int) (ws : List Int) (A : Option Addr) (c : Nat) (w : World) (hS : Cl eI w A ws) (hl : ws.length ≤ 9223372036854775807) :
    Calls Try.prog 13 #[.int .i64 t, .slice A ws.length c] w (ResL (bouL t ws) (errS t ws) w) := by
  have HDIV := Lib.hid (share_divisor t ws A c w hS hl)
  by_cases hE : errS t ws = 0
  · obtain ⟨W, hW, hW0, hW1, -, hsW, -, hbd⟩ := dvV_ok hE
    have ok := Ok.of hE
    obtain ⟨T, hT⟩ : ∃ T : Nat, T = t.toNat := ⟨_, rfl⟩
    have ht : t = (T : Int) := by have := ok.t0; omega
    have hTm : T ≤ 1125899906842624 := by have h1 := ok.t1; have hm : mx = 1125899906842624 := rfl; omega
    rw [hW, hE] at HDIV
    have HRES : Hid (bouL t ws = bndsL t ws) := if_pos hE
    obtain ⟨q, hq⟩ : ∃ q, q = bnd t.toNat (wf ws) ws.length := ⟨_, rfl⟩
    obtain ⟨y, hy⟩ : ∃ y, y = sm (wf ws) := ⟨_, rfl⟩
    have HFIN : Hid (lst (fun j => (q j : Int)) ws.length = bndsL t ws) := by show _ = _; rw [hq]; rfl
    have HLN : Hid (ws.length ≤ 512 ∧ 0 < ws.length) := ⟨ok.n1, ok.n0⟩
    have HDV := Lib.hid (show ∀ i, i < ws.length → ∀ W', Calls Try.prog 24 #[.int .i64 (T : Int), .int .i64 (y (i + 1) : Int), .int .i64 (W : Int)] W' fun e w' => (∃ r : Int, e = .returned (.tuple #[.int .i64 (q i : Int), .int .i64 r])) ∧ Below W'.heap.size W' w' from fun i hi W' => by
      have h1 := share_divide hW0 hTm (hsW i hi) hW1 W'
      have h2 := hbd i hi
      rw [← hT] at h2 hq
      rw [h2] at h1
      rw [hq, hy]
      exact h1.mono fun e w' h => ⟨⟨_, h.1⟩, h.2⟩)
    have HY : Hid (∀ i, i < ws.length → y (i + 1) = y i + wf ws i ∧ y (i + 1) ≤ 1125899906842624) := fun i hi => ⟨by rw [hy]; rfl, by rw [hy]; exact Nat.le_trans (hsW i hi) hW1⟩
    have HY0 : Hid (y 0 = 0) := (by rw [hy]; rfl : y 0 = 0)
    have HWF : Hid (∀ (i : Nat) z, ws[i]? = some z → z = (wf ws i : Int)) := fun i z hz => (wf_at hz (ok.all z (List.mem_of_getElem? hz)).1).symm
    have HS := Lib.hid hS
    obtain ⟨n, hn⟩ : ∃ n, ws.length = n := ⟨_, rfl⟩
    have HN := Lib.hid hn
    have HTT := Lib.hid ht
    rw [hn] at HDIV HFIN HLN HDV HY hl ⊢
    rw [hE]
    rw [ht] at HDIV ⊢
    have hn5 := HLN.out.1
    have hmk := fun W => make_ints n (by omega) W
    clear hS hW hW0 hW1 hsW hbd ok hT ht hq hy hE hn hl
    go_enter Try.func13, Try.ntmps13
    go_wp2_with fail
    refine HDIV.out.mono ?_
    rintro e w1 ⟨rfl, hb1⟩
    have HB1 := Lib.hid hb1
    clear hb1
    go_upto_region 5 with fail
    have HOP0 := Lib.hid (one_made w1 n (by omega))
    have HBC0 := Lib.hid (below_alloc w1 (zeros n))
    obtain ⟨w2, hw2⟩ : ∃ W, w1.alloc (zeros n) = W := ⟨_, rfl⟩
    obtain ⟨gp, hgp⟩ : ∃ g, w1.heap.size = g := ⟨_, rfl⟩
    have HGP := Lib.hid hgp
    have HBC : Hid (Below gp w1 w2) := hgp ▸ hw2 ▸ HBC0.out
    have HOP : Hid (Own eI 3 gp w2 (.slice (some ⟨gp, 0, none⟩) n n) (lst (fun _ => 0) n)) := hgp ▸ hw2 ▸ HOP0.out
    rw [hw2, hgp]
    clear hw2 hgp hmk HOP0 HBC0
    go_wp2_with fail
    go_loopw [9, 10, 11, 26] (fun l _ _ x wr => ∃ k : Nat, l = .int .i64 (y k : Int) ∧ x = .int .i64 (k : Int) ∧ k ≤ n ∧ Own eI 3 gp wr (.slice (some ⟨gp, 0, none⟩) n n) (upL q k n) ∧ Below gp w1 wr) (fun _ _ _ x _ => n - (RowKit.intOf x).toNat)
    case atStart => exact ⟨0, by rw [HY0.out]; rfl, rfl, Nat.zero_le _, by rw [upL_zero]; exact HOP.out, HBC.out⟩
    case round =>
      obtain ⟨k, rfl, rfl, hk, hop, hbel⟩ := hrel
      have HOP2 := Lib.hid hop
      have HB := Lib.hid hbel
      clear hop hbel
      rcases Nat.lt_or_ge k n with hlt | hge
      · obtain ⟨z, hz⟩ := get_lt (L := ws) (k := k) (by rw [HN.out]; exact hlt)
        obtain ⟨b, off, hA, hb, hcell⟩ := (HS.out.on (HB1.out.trans (HB.out.mono (by rw [← HGP.out]; exact HB1.out.size)))) k z hz
        obtain rfl := hA
        obtain rfl := HWF.out k z hz
        have HCALL := Lib.hid (HDV.out k hlt wr)
        have hyk := HY.out k hlt
        obtain ⟨x, hx⟩ : ∃ x, x = wf ws k := ⟨_, rfl⟩
        obtain ⟨Y, hY⟩ : ∃ x, x = y k := ⟨_, rfl⟩
        obtain ⟨Y', hY'⟩ : ∃ x, x = y (k + 1) := ⟨_, rfl⟩
        obtain ⟨Q, hQ⟩ : ∃ x, x = q k := ⟨_, rfl⟩
        rw [← hx] at hcell
        rw [← hQ, ← hY'] at HCALL
        rw [← hY, ← hY', ← hx] at hyk
        rw [← hY]
        have HYK := Lib.hid (show Y' = y (k + 1) from hY')
        have HQR := Lib.hid (show Q = q k from hQ)
        have i1 : (k : Int) < (n : Int) := by omega
        have i2 : (0 : Int) ≤ (k : Int) := by omega
        have hk1 : IntKind.i64.wrap ((k : Int) + 1) = ((k + 1 : Nat) : Int) := wrap_id (by omega)
        have hy1 : IntKind.i64.wrap ((Y : Int) + (x : Int)) = (Y' : Int) := by rw [wrap_id (by omega)]; omega
        have HLT := Lib.hid hlt
        clear hz hx hQ hb hk hyk hY hY' hlt
        go_wp2_with fail
        refine HCALL.out.mono ?_
        rintro e w3 ⟨⟨r, rfl⟩, hb3⟩
        have HOP3 := Lib.hid (HOP2.out.on hb3)
        have HB3 : Hid (Below gp w1 w3) := HB.out.trans (hb3.mono (by have := HB.out.size; have := HGP.out; omega))
        have cp := HOP3.out.cell (upL_at q HLT.out)
        have fp := HOP3.out.warm (upL_len q k n).symm k
        have HPP : Hid (Own eI 3 gp (w3.setCell ⟨gp, k, none⟩ (.int .i64 (Q : Int))) (.slice (some ⟨gp, 0, none⟩) n n) (upL q (k + 1) n)) := by
          have h1 := HOP3.out.set (upL_len q k n).symm k (Q : Int)
          rw [HQR.out, upL_set q HLT.out] at h1
          rw [HQR.out]
          exact h1
        have HBB : Hid (Below gp w1 (w3.setCell ⟨gp, k, none⟩ (.int .i64 (Q : Int)))) := below_set HB3.out (p := ⟨gp, k, none⟩) (Nat.le_refl _) _
        clear hb3
        go_wp2_with fail
        go_roundw
        case rel => exact ⟨k + 1, by rw [HYK.out], rfl, HLT.out, HPP.out, HBB.out⟩
        case measure =>
          have := HLT.out
          simp [RowKit.intOf]; omega
      · obtain rfl : n = k := by omega
        have HOF : Hid (Own eI 3 w.heap.size wr (.slice (some ⟨gp, 0, none⟩) n n) (bouL t ws)) := by
          rw [HRES.out, ← HFIN.out, ← upL_all]
          exact HOP2.out.less (by rw [← HGP.out]; exact HB1.out.size)
        have HBF : Hid (Below w.heap.size w wr) := HB1.out.trans (HB.out.mono (by rw [← HGP.out]; exact HB1.out.size))
        clear hk hge
        go_wp2_with fail
        go_ret2
        exact ⟨_, rfl, by rw [← HTT.out]; exact HOF.out, HBF.out⟩
  · obtain ⟨E, hEE⟩ : ∃ E, E = errS t ws := ⟨_, rfl⟩
    have HRES : Hid (bouL t ws = []) := if_neg hE
    have hE1 : ((E : Int) != 0) = true := by simp; omega
    have hE2 : ¬ E = 0 := by omega
    have hE3 : ¬ (E : Int) = 0 := by omega
    obtain ⟨D, hD⟩ : ∃ D, D = dvV t ws := ⟨_, rfl⟩
    obtain ⟨n, hn⟩ : ∃ n, ws.length = n := ⟨_, rfl⟩
    rw [← hEE, ← hD, hn] at HDIV
    rw [← hEE, hn]
    clear hEE hD hS hl hn hE
    go_enter Try.func13, Try.ntmps13
    go_wp2_with fail
    refine HDIV.out.mono ?_
    rintro e w1 ⟨rfl, hb1⟩
    have HB1 := Lib.hid hb1
    clear hb1
    go_wp2_with fail
    go_ret2
    exact ⟨_, rfl, by rw [HRES.out]; exact Own.nil _ _ _ _, HB1.out⟩
#print axioms share_bounds
end Go.Proofs.Ytdolhanniiejfaa.Share
