/- Same and Bounds of the reference. -/
import Derived.Test.YtdolhanniiejfaaShareI
namespace Go.Proofs.Ytdolhanniiejfaa.Share
open Go.ChangeShapes Go.WideShapes Go.RowKit Go.Lib Go.Proofs.Ytdolhanniiejfaa.Mem
set_option linter.unusedVariables false
set_option maxRecDepth 100000

set_option maxHeartbeats 800000 in
theorem same_ints (L M : List Int) (A B : Option Addr) (c d : Nat) (w : World) (ha : Cl eI w A L) (hb : Cl eI w B M) (hm : L.length ≤ 9223372036854775807) (hm2 : M.length ≤ 9223372036854775807) :
    Calls Try.prog 15 #[.slice A L.length c, .slice B M.length d] w fun e w' => e = .returned (.bool (decide (L = M))) ∧ Below w.heap.size w w' := by
  have HA := Lib.hid ha
  have HB := Lib.hid hb
  clear ha hb
  by_cases hl : L.length = M.length
  · have HL := Lib.hid hl
    have hl' : ((L.length : Int) == (M.length : Int)) = true := by simp [hl]
    have hl2 : ((L.length : Int) != (M.length : Int)) = false := by simp [hl]
    clear hl
    go_enter Try.func15, Try.ntmps15
    go_wp2_with fail
    go_loopw [5] (fun i wr => ∃ k : Nat, k ≤ L.length ∧ i = .int .i64 k ∧ (∀ j s t, j < k → L[j]? = some s → M[j]? = some t → s = t) ∧ Below w.heap.size w wr) (fun i _ => L.length - (RowKit.intOf i).toNat)
    case atStart => exact ⟨0, Nat.zero_le _, rfl, fun j s t h => absurd h (by omega), Below.refl _ _⟩
    case round =>
      obtain ⟨k, hk, rfl, hv, hbel⟩ := hrel
      have HV := Lib.hid hv
      have HW := Lib.hid hbel
      clear hv hbel
      rcases Nat.lt_or_ge k L.length with hlt | hge
      · have hlt2 : k < M.length := by have := HL.out; omega
        obtain ⟨s, hs⟩ := get_lt hlt
        obtain ⟨t, ht⟩ := get_lt hlt2
        obtain ⟨g1, off1, rfl, hb1, h0⟩ := HA.out.on HW.out k s hs
        obtain ⟨g2, off2, rfl, hb2, h2⟩ := HB.out.on HW.out k t ht
        have HS := Lib.hid hs
        have HT := Lib.hid ht
        have i1 : (k : Int) < (L.length : Int) := by omega
        have i2 : (0 : Int) ≤ (k : Int) := by omega
        have i3 : (k : Int) < (M.length : Int) := by omega
        clear hs ht
        by_cases e : s = t
        · subst e
          have hne : (s != s) = false := by simp
          go_wp2_with fail
          go_quiet (fail)
          go_wp2_with fail
          go_roundw
          case rel =>
            refine ⟨k + 1, by omega, by go_num, ?_, below_drewN HW.out _⟩
            intro j u v hj hu hv
            rcases Nat.lt_or_eq_of_le (Nat.le_of_lt_succ hj) with h | h
            · exact HV.out j u v h hu hv
            · subst h
              have e1 := HS.out
              have e2 := HT.out
              rw [hu] at e1; rw [hv] at e2; cases e1; cases e2; rfl
          case measure => simp [RowKit.intOf]; omega
        · have E : Hid (decide (L = M) = false) := decide_eq_false fun h => by
            subst h
            have e1 := HS.out
            rw [HT.out] at e1; exact e (Option.some.inj e1).symm
          have hne : (s != t) = true := by simp [e]
          have hne2 : (s == t) = false := by simp [e]
          clear e
          go_wp2_with fail
          go_quiet (fail)
          go_wp2_with fail
          go_ret
          exact ⟨ret_bool E.out.symm, below_drewN HW.out _⟩
      · obtain rfl : k = L.length := by omega
        have E : Hid (decide (L = M) = true) := decide_eq_true (by
          apply List.ext_getElem HL.out
          intro j h1 h2
          exact HV.out j _ _ h1 (List.getElem?_eq_getElem h1) (List.getElem?_eq_getElem h2))
        go_wp2_with fail
        go_ret
        exact ⟨ret_bool E.out.symm, HW.out⟩
  · have hl' : ((L.length : Int) == (M.length : Int)) = false := beq_false_of_ne (by omega)
    have hl2 : ((L.length : Int) != (M.length : Int)) = true := by simp; omega
    have E : Hid (decide (L = M) = false) := decide_eq_false fun h => hl (by rw [h])
    clear hl
    go_enter Try.func15, Try.ntmps15
    go_wp2_with fail
    go_ret
    exact ⟨ret_bool E.out.symm, Below.refl _ _⟩

set_option maxHeartbeats 3200000 in
theorem ref_bounds (t : Int) (ws : List Int) (A : Option Addr) (c : Nat) (w : World) (hS : Cl eI w A ws) (hl : ws.length ≤ 9223372036854775807) :
    Calls Try.prog 14 #[.int .i64 t, .slice A ws.length c] w (ResL (bouL t ws) (errS t ws) w) := by
  have HDIV := Lib.hid (ref_check t ws A c w hS hl)
  by_cases hE : errS t ws = 0
  · have ok := Ok.of hE
    obtain ⟨T, hT⟩ : ∃ T : Nat, T = t.toNat := ⟨_, rfl⟩
    have ht : t = (T : Int) := by have := ok.t0; omega
    have hTm : T ≤ 1125899906842624 := by have h1 := ok.t1; have hm : mx = 1125899906842624 := rfl; omega
    have HRES : Hid (bouL t ws = bndsL t ws) := if_pos hE
    have hW : chV t ws = (Share.tw (wf ws) ws.length : Int) := by unfold chV; rw [if_pos hE]; exact ok.twI.symm
    have hW1 : Share.tw (wf ws) ws.length ≤ 1125899906842624 := by have h1 := ok.sum; have h2 := ok.twI; have hm : mx = 1125899906842624 := rfl; omega
    rw [hW, hE] at HDIV
    have HLN : Hid (ws.length ≤ 512 ∧ 0 < ws.length) := ⟨ok.n1, ok.n0⟩
    rcases Nat.eq_zero_or_pos (Share.tw (wf ws) ws.length) with hz | hz
    · have HFIN := Lib.hid (bndsL_zero (t := t) hz)
      rw [hz] at HDIV
      obtain ⟨n, hn⟩ : ∃ n, ws.length = n := ⟨_, rfl⟩
      have HTT := Lib.hid ht
      rw [hn] at HDIV HFIN HLN hl ⊢
      rw [hE]
      rw [ht] at HDIV ⊢
      have hn5 := HLN.out.1
      have hn6 : (0 : Int) < (n : Int) := by have := HLN.out.2; omega
      have hn7 : 0 < n := HLN.out.2
      have hmk := fun W => make_ints n (by omega) W
      have hz0 : ((0 : Nat) : Int) = 0 := rfl
      rw [hz0] at HDIV
      clear hS hW hW1 ok hT ht hE hn hl hz hTm hz0
      go_enter Try.func14, Try.ntmps14
      go_wp2_with fail
      refine HDIV.out.mono ?_
      rintro e w1 ⟨rfl, rfl⟩
      go_upto_region 5 with fail
      have HOP0 := Lib.hid (one_made w n (by omega))
      have HBC0 := Lib.hid (below_alloc w (zeros n))
      obtain ⟨w2, hw2⟩ : ∃ W, w.alloc (zeros n) = W := ⟨_, rfl⟩
      have HOF : Hid (Own eI 3 w.heap.size w2 (.slice (some ⟨w.heap.size, 0, none⟩) n n) (bouL t ws)) := by
        rw [HRES.out, HFIN.out, ← hw2]; exact HOP0.out
      have HBF : Hid (Below w.heap.size w w2) := hw2 ▸ HBC0.out
      rw [hw2]
      clear hw2 HOP0 HBC0 hmk
      go_wp2_with fail
      go_loopw [9, 10] (fun l x wr => l = .int .i64 0 ∧ x = .int .i64 0 ∧ wr = w2) (fun _ _ _ => 0)
      case atStart => exact ⟨rfl, rfl, rfl⟩
      case round =>
        obtain ⟨rfl, rfl, rfl⟩ := hrel
        go_wp2_with fail
        go_ret2
        exact ⟨_, rfl, by rw [← HTT.out]; exact HOF.out, HBF.out⟩
    · obtain ⟨W, hWW⟩ : ∃ W, W = Share.tw (wf ws) ws.length := ⟨_, rfl⟩
      obtain ⟨q, hq⟩ : ∃ q, q = bnd t.toNat (wf ws) ws.length := ⟨_, rfl⟩
      obtain ⟨y, hy⟩ : ∃ y, y = sm (wf ws) := ⟨_, rfl⟩
      have hsW : ∀ i, i < ws.length → y (i + 1) ≤ W := fun i hi => by rw [hy, hWW]; exact sm_mono (by omega)
      have HFIN : Hid (lst (fun j => (q j : Int)) ws.length = bndsL t ws) := by show _ = _; rw [hq]; rfl
      have HDV := Lib.hid (show ∀ i, i < ws.length → ∀ W', Calls Try.prog 27 #[.int .i64 (y (i + 1) : Int), .int .i64 (T : Int), .int .i64 (W : Int)] W' fun e w' => (∃ r : Int, e = .returned (.tuple #[.int .i64 (q i : Int), .int .i64 r])) ∧ W' = w' from fun i hi W' => by
        have h1 := ref_divide (a := y (i + 1)) (b := T) (c := W) (hsW i hi) (by omega) (by omega) hTm W'
        have h2 : y (i + 1) * T / W = q i := by
          rw [hq, hWW, Nat.mul_comm, hT, hy]
          unfold bnd
          rw [if_neg (by omega)]
        rw [h2] at h1
        exact h1.mono fun e w' h => ⟨⟨_, h.1⟩, h.2⟩)
      have HY : Hid (∀ i, i < ws.length → y (i + 1) = y i + wf ws i ∧ y (i + 1) ≤ 1125899906842624) := fun i hi => ⟨by rw [hy]; rfl, Nat.le_trans (hsW i hi) (by omega)⟩
      have HY0 : Hid (y 0 = 0) := (by rw [hy]; rfl : y 0 = 0)
      have HWF : Hid (∀ (i : Nat) z, ws[i]? = some z → z = (wf ws i : Int)) := fun i z hz => (wf_at hz (ok.all z (List.mem_of_getElem? hz)).1).symm
      have HS := Lib.hid hS
      rw [← hWW] at HDIV hz
      obtain ⟨n, hn⟩ : ∃ n, ws.length = n := ⟨_, rfl⟩
      have HN := Lib.hid hn
      have HTT := Lib.hid ht
      rw [hn] at HDIV HFIN HLN HDV HY hl ⊢
      rw [hE]
      rw [ht] at HDIV ⊢
      have hn5 := HLN.out.1
      have hmk := fun W => make_ints n (by omega) W
      have hz1 : 0 < W := hz
      clear hS hW hW1 hsW ok hT ht hq hy hE hn hl hWW hTm hz
      go_enter Try.func14, Try.ntmps14
      go_wp2_with fail
      refine HDIV.out.mono ?_
      rintro e w1 ⟨rfl, rfl⟩
      go_upto_region 5 with fail
      have HOP0 := Lib.hid (one_made w n (by omega))
      have HBC0 := Lib.hid (below_alloc w (zeros n))
      obtain ⟨w2, hw2⟩ : ∃ W, w.alloc (zeros n) = W := ⟨_, rfl⟩
      obtain ⟨gp, hgp⟩ : ∃ g, w.heap.size = g := ⟨_, rfl⟩
      have HGP := Lib.hid hgp
      have HBC : Hid (Below gp w w2) := hgp ▸ hw2 ▸ HBC0.out
      have HOP : Hid (Own eI 3 gp w2 (.slice (some ⟨gp, 0, none⟩) n n) (lst (fun _ => 0) n)) := hgp ▸ hw2 ▸ HOP0.out
      rw [hw2, hgp]
      clear hw2 hgp hmk HOP0 HBC0
      go_wp2_with fail
      go_loopw [9, 10] (fun l x wr => ∃ k : Nat, l = .int .i64 (y k : Int) ∧ x = .int .i64 (k : Int) ∧ k ≤ n ∧ Own eI 3 gp wr (.slice (some ⟨gp, 0, none⟩) n n) (upL q k n) ∧ Below gp w wr) (fun _ x _ => n - (RowKit.intOf x).toNat)
      case atStart => exact ⟨0, by rw [HY0.out]; rfl, rfl, Nat.zero_le _, by rw [upL_zero]; exact HOP.out, HBC.out⟩
      case round =>
        obtain ⟨k, rfl, rfl, hk, hop, hbel⟩ := hrel
        have HOP2 := Lib.hid hop
        have HB := Lib.hid hbel
        clear hop hbel
        rcases Nat.lt_or_ge k n with hlt | hge
        · obtain ⟨z, hz⟩ := get_lt (L := ws) (k := k) (by rw [HN.out]; exact hlt)
          obtain ⟨b, off, hA, hb, hcell⟩ := (HS.out.on (by rw [HGP.out]; exact HB.out)) k z hz
          obtain rfl := hA
          obtain rfl := HWF.out k z hz
          have HCALL := Lib.hid (HDV.out k hlt wr)
          have hyk := HY.out k hlt
          obtain ⟨x, hx⟩ : ∃ x, x = wf ws k := ⟨_, rfl⟩
          obtain ⟨Y, hY⟩ : ∃ x, x = y k := ⟨_, rfl⟩
          obtain ⟨Y', hY'⟩ : ∃ x, x = y (k + 1) := ⟨_, rfl⟩
          obtain ⟨Q, hQ⟩ : ∃ x, x = q k := ⟨_, rfl⟩
          rw [← hx] at hcell
          rw [← hQ, ← hY'] at HCALL
          rw [← hY, ← hY', ← hx] at hyk
          rw [← hY]
          have HYK := Lib.hid (show Y' = y (k + 1) from hY')
          have HQR := Lib.hid (show Q = q k from hQ)
          have i1 : (k : Int) < (n : Int) := by omega
          have i2 : (0 : Int) ≤ (k : Int) := by omega
          have i3 : k < n := hlt
          have hk1 : IntKind.i64.wrap ((k : Int) + 1) = ((k + 1 : Nat) : Int) := wrap_id (by omega)
          have hy1 : IntKind.i64.wrap ((Y : Int) + (x : Int)) = (Y' : Int) := by rw [wrap_id (by omega)]; omega
          have HLT := Lib.hid hlt
          clear hz hx hQ hb hk hyk hY hY' hlt
          go_wp2_with fail
          refine HCALL.out.mono ?_
          rintro e w3 ⟨⟨r, rfl⟩, rfl⟩
          have cp := HOP2.out.cell (upL_at q HLT.out)
          have fp := HOP2.out.warm (upL_len q k n).symm k
          have HPP : Hid (Own eI 3 gp (wr.setCell ⟨gp, k, none⟩ (.int .i64 (Q : Int))) (.slice (some ⟨gp, 0, none⟩) n n) (upL q (k + 1) n)) := by
            have h1 := HOP2.out.set (upL_len q k n).symm k (Q : Int)
            rw [HQR.out, upL_set q HLT.out] at h1
            rw [HQR.out]
            exact h1
          have HBB : Hid (Below gp w (wr.setCell ⟨gp, k, none⟩ (.int .i64 (Q : Int)))) := below_set HB.out (p := ⟨gp, k, none⟩) (Nat.le_refl _) _
          go_wp2_with fail
          go_roundw
          case rel => exact ⟨k + 1, by rw [HYK.out], rfl, HLT.out, HPP.out, HBB.out⟩
          case measure =>
            have := HLT.out
            simp [RowKit.intOf]; omega
        · obtain rfl : n = k := by omega
          have HOF : Hid (Own eI 3 w.heap.size wr (.slice (some ⟨gp, 0, none⟩) n n) (bouL t ws)) := by
            rw [HRES.out, ← HFIN.out, ← upL_all, HGP.out]
            exact HOP2.out
          have HBF : Hid (Below w.heap.size w wr) := HGP.out.symm ▸ HB.out
          clear hk hge
          go_wp2_with fail
          go_ret2
          exact ⟨_, rfl, by rw [← HTT.out]; exact HOF.out, HBF.out⟩
  · obtain ⟨E, hEE⟩ : ∃ E, E = errS t ws := ⟨_, rfl⟩
    have HRES : Hid (bouL t ws = []) := if_neg hE
    have hE1 : ((E : Int) != 0) = true := by simp; omega
    have hE2 : ¬ E = 0 := by omega
    have hE3 : ¬ (E : Int) = 0 := by omega
    obtain ⟨D, hD⟩ : ∃ D, D = chV t ws := ⟨_, rfl⟩
    obtain ⟨n, hn⟩ : ∃ n, ws.length = n := ⟨_, rfl⟩
    rw [← hEE, ← hD, hn] at HDIV
    rw [← hEE, hn]
    clear hEE hD hS hl hn hE
    go_enter Try.func14, Try.ntmps14
    go_wp2_with fail
    refine HDIV.out.mono ?_
    rintro e w1 ⟨rfl, rfl⟩
    go_wp2_with fail
    go_ret2
    exact ⟨_, rfl, by rw [HRES.out]; exact Own.nil _ _ _ _, Below.refl _ _⟩
#print axioms same_ints
#print axioms ref_bounds
end Go.Proofs.Ytdolhanniiejfaa.Share
