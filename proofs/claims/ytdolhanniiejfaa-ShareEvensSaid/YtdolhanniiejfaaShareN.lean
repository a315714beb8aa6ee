/- longer; the walks of ShareSplits and ShareEvens. -/
import Derived.Test.YtdolhanniiejfaaShareM
import Derived.Test.YtdolhanniiejfaaLawKit
namespace Go.Proofs.Ytdolhanniiejfaa.Share
open Go.ChangeShapes Go.WideShapes Go.RowKit Go.Lib Go.Proofs.Ytdolhanniiejfaa.Mem
set_option linter.unusedVariables false
set_option maxRecDepth 100000

theorem in_cl {w : World} {A : Option Addr} {n c : Nat} {zs : List Int} (h : InInts .i64 w A n c zs) : Cl eI w A zs ∧ zs.length = n ∧ n ≤ 9223372036854775807 := by
  obtain ⟨h1, h2, h3, _, h4⟩ := h
  refine ⟨h4, h1.symm, ?_⟩
  unfold maxLen at h3; omega
/-- What longer returns. -/
def lonL (ws : List Int) (m : Int) : List Int := if m < 500 ∨ 520 < m ∨ ws.length = 0 then ws else (List.range m.toNat).map fun i => ws.getD (i % ws.length) 0
def LonR (L : List Int) (w : World) : Ending → World → Prop := fun e w' => ∃ (A : Option Addr) (n c : Nat), e = .returned (.slice A n c) ∧ L.length = n ∧ n ≤ 9223372036854775807 ∧ Cl eI w' A L ∧ Below w.heap.size w w'
theorem lonL_up (ws : List Int) (k : Nat) : ((List.range (k + 1)).map fun i => ws.getD (i % ws.length) 0) = ((List.range k).map fun i => ws.getD (i % ws.length) 0) ++ [ws.getD (k % ws.length) 0] := by
  rw [List.range_succ, List.map_append]; rfl

set_option maxHeartbeats 1600000 in
theorem longer_run (ws : List Int) (m : Int) (N : Nat) (hN : ws.length = N) (A : Option Addr) (c : Nat) (w : World) (hS : Cl eI w A ws) (hl : N ≤ 9223372036854775807) :
    Calls Try.prog 10 #[.slice A N c, .int .i64 m] w (LonR (lonL ws m) w) := by
  by_cases hm : m < 500 ∨ 520 < m ∨ N = 0
  · have HR : Hid (LonR (lonL ws m) w (.returned (.slice A N c)) w) := by
      have e : lonL ws m = ws := if_pos (by rw [hN]; exact hm)
      exact ⟨A, N, c, rfl, by rw [e]; exact hN, hl, by rw [e]; exact hS, Below.refl _ _⟩
    clear hS hN
    rcases hm with h | h | h
    · go_enter Try.func10, Try.ntmps10
      go_wp2_with fail
      go_ret
      exact HR.out
    · have h1 : ¬ m < 500 := by omega
      go_enter Try.func10, Try.ntmps10
      go_wp2_with fail
      go_ret
      exact HR.out
    · subst h
      by_cases h1 : m < 500
      · go_enter Try.func10, Try.ntmps10
        go_wp2_with fail
        go_ret
        exact HR.out
      · by_cases h2 : 520 < m
        · go_enter Try.func10, Try.ntmps10
          go_wp2_with fail
          go_ret
          exact HR.out
        · go_enter Try.func10, Try.ntmps10
          go_wp2_with fail
          go_ret
          exact HR.out
  · obtain ⟨M, rfl⟩ : ∃ M : Nat, m = (M : Int) := ⟨m.toNat, by omega⟩
    have HM := Lib.hid (show 500 ≤ M ∧ M ≤ 520 ∧ 0 < N by omega)
    have HNN := Lib.hid hN
    have HS := Lib.hid hS
    obtain ⟨f, hf⟩ : ∃ f : Nat → List Int, f = fun k => (List.range k).map fun i => ws.getD (i % ws.length) 0 := ⟨_, rfl⟩
    have HE : Hid (lonL ws (M : Int) = f M) := by
      show _ = _
      rw [hf]
      exact if_neg (by rw [hN]; exact hm)
    have HF0 : Hid (f 0 = []) := by rw [hf]; rfl
    have HFL : Hid (∀ k, (f k).length = k) := fun k => by rw [hf]; simp
    have HFN : Hid (∀ k, f (k + 1) = f k ++ [ws.getD (k % N) 0]) := fun k => by rw [hf]; have := lonL_up ws k; rw [hN] at this ⊢; exact this
    have g1 : ¬ (M : Int) < 500 := by omega
    have g2 : ¬ (520 : Int) < (M : Int) := by omega
    have g3 : ¬ N = 0 := by omega
    have g4 : ((N : Int) == 0) = false := by simp; omega
    have g5 : ¬ M < 500 := by omega
    have g6 : ¬ 520 < M := by omega
    have g7 : (N == 0) = false := by simp; omega
    have g8 : ¬ (N : Int) = 0 := by omega
    clear hS hN hm hf
    go_enter Try.func10, Try.ntmps10
    go_wp2_with fail
    go_loopw [5, 6] (fun v x wr => ∃ (k c' : Nat) (A' : Option Addr), v = .slice A' k c' ∧ x = .int .i64 (k : Int) ∧ k ≤ M ∧ Own eI 3 w.heap.size wr (.slice A' k c') (f k) ∧ Below w.heap.size w wr) (fun _ x _ => M - (RowKit.intOf x).toNat)
    case atStart => exact ⟨0, 0, none, rfl, rfl, Nat.zero_le _, by rw [HF0.out]; exact Own.nil _ _ _ _, Below.refl _ _⟩
    case round =>
      obtain ⟨k, c', A', rfl, rfl, hk, hown, hbel⟩ := hrel
      have HO := Lib.hid hown
      have HB := Lib.hid hbel
      clear hown hbel
      rcases Nat.lt_or_ge k M with hlt | hge
      · have HLT := Lib.hid hlt
        obtain ⟨r, hr⟩ : ∃ r, r = k % N := ⟨_, rfl⟩
        have hrN : r < N := hr ▸ Nat.mod_lt _ HM.out.2.2
        obtain ⟨z, hz⟩ := get_lt (L := ws) (k := r) (by rw [HNN.out]; exact hrN)
        obtain ⟨b, off, hA, hb, hcell⟩ := (HS.out.on HB.out) r z hz
        obtain rfl := hA
        have HZ : Hid (ws.getD (k % N) 0 = z) := by
          show _ = _
          rw [← hr, List.getD_eq_getElem?_getD, hz]; rfl
        have hk1 : IntKind.i64.wrap ((k : Int) + 1) = ((k + 1 : Nat) : Int) := wrap_id (by have := HM.out; omega)
        have hm1 : (k : Int) % (N : Int) = (r : Int) := by rw [hr]; simp
        have hm2 : (k : Int).tmod (N : Int) = (r : Int) := by rw [Int.tmod_eq_emod_of_nonneg (by omega), hm1]
        have hm3 : IntKind.i64.wrap (r : Int) = (r : Int) := wrap_id (by have := HM.out; omega)
        have i1 : (k : Int) < (M : Int) := by omega
        have i2 : (r : Int) < (N : Int) := by omega
        have i3 : (0 : Int) ≤ (r : Int) := by omega
        clear hk hlt hr hrN hz
        go_wp2_with (at_builtin; refine append_int rfl _ _ rfl w.heap.size (.slice A' k c') (f k) rfl (HO.out.alloc _) wr.heap.size 1 z rfl (by simp) (by have := HM.out; have := HLT.out; rw [HFL.out]; omega) (Nat.le_trans HB.out.size (below_alloc _ _).size) ?_; intro v' w6 hown' hg' hat; refine Hid.out ?_)
        have HBA := Lib.hid (below_alloc wr (.cells #[.int .i64 z] 3))
        have HB6 : Hid (Below w.heap.size w w6) := HB.out.trans ((HBA.out.mono HB.out.size).trans (Own.below (HO.out.alloc _) hg' (Nat.le_trans HB.out.size HBA.out.size)))
        obtain ⟨A6, c6, rfl, -, -⟩ := hown'.inS.open_
        have e6 : (f k ++ [z]).length = k + 1 := by rw [List.length_append, HFL.out]; rfl
        have e7 : f k ++ [z] = f (k + 1) := by rw [HFN.out, HZ.out]
        rw [e6, e7] at hown'
        rw [e6]
        have HO6 := Lib.hid hown'
        clear hown' hg' hat e6 e7 HBA
        refine Lib.hid ?_
        go_wp2_with fail
        go_roundw
        case rel => exact ⟨k + 1, c6, A6, rfl, rfl, HLT.out, HO6.out, HB6.out⟩
        case measure =>
          have := HLT.out
          simp [RowKit.intOf]; omega
      · obtain rfl : M = k := by omega
        have HR : Hid (LonR (lonL ws (M : Int)) w (.returned (.slice A' M c')) wr) := ⟨A', M, c', rfl, by rw [HE.out]; exact HFL.out M, by have := HM.out; omega, by rw [HE.out]; exact own_cl HO.out, HB.out⟩
        clear hk hge
        go_wp2_with fail
        go_ret
        exact HR.out

set_option maxHeartbeats 3200000 in
theorem walk_ShareSplits (w : World) (t : Int) (A : Option Addr) (n c : Nat) (zs : List Int) (h : InInts .i64 w A n c zs) (m : Int) :
    Calls Try.prog 3 #[.int .i64 t, .slice A n c, .int .i64 m] w fun e w' => e = .returned (.bool true) ∧ Below w.heap.size w w' := by
  obtain ⟨hcl, hn, hl⟩ := in_cl h
  have HCL := Lib.hid hcl
  have HN := Lib.hid hn
  clear h hcl hn
  rcases Nat.lt_or_ge 60 n with hlt | hge
  · have i1 : (60 : Int) < (n : Int) := by omega
    have i2 : 60 < n := hlt
    clear hlt
    go_enter Try.func3, Try.ntmps3
    go_wp2_with fail
    refine (awake_true _).mono ?_
    rintro e w1 ⟨rfl, hb⟩
    have HB := Lib.hid hb
    clear hb
    go_wp2_with fail
    go_ret
    exact ⟨rfl, HB.out⟩
  · have i1 : ¬ (60 : Int) < (n : Int) := by omega
    have i2 : ¬ 60 < n := by omega
    clear hge
    go_enter Try.func3, Try.ntmps3
    go_wp2_with fail
    refine (longer_run zs m n HN.out A c w HCL.out hl).mono ?_
    rintro e w1 ⟨A1, k, c1, rfl, hk, hkl, hc1, hb1⟩
    have HK := Lib.hid hk
    have HKL := Lib.hid hkl
    have HC1 := Lib.hid hc1
    have HB1 := Lib.hid hb1
    obtain ⟨L, hL⟩ : ∃ L, L = lonL zs m := ⟨_, rfl⟩
    rw [← hL] at HK HC1
    clear hk hkl hc1 hb1 hL
    obtain ⟨P, hP⟩ : ∃ P, P = splL t L := ⟨_, rfl⟩
    obtain ⟨Q, hQ⟩ : ∃ Q, Q = bouL t L := ⟨_, rfl⟩
    obtain ⟨E, hE⟩ : ∃ E, E = errS t L := ⟨_, rfl⟩
    have HSP := Lib.hid (fun W (hW : Below w1.heap.size w1 W) => split_n t L k HK.out A1 c1 W (HC1.out.on hW) HKL.out)
    have HRS := Lib.hid (fun W (hW : Below w1.heap.size w1 W) => rsplit_n t L k HK.out A1 c1 W (HC1.out.on hW) HKL.out)
    have HBO := Lib.hid (fun W (hW : Below w1.heap.size w1 W) => bounds_n t L k HK.out A1 c1 W (HC1.out.on hW) HKL.out)
    have HRB := Lib.hid (fun W (hW : Below w1.heap.size w1 W) => rbounds_n t L k HK.out A1 c1 W (HC1.out.on hW) HKL.out)
    rw [← hP, ← hE] at HSP HRS
    rw [← hQ, ← hE] at HBO HRB
    clear hP hQ hE
    go_wp2_with fail
    refine (HSP.out w1 (Below.refl _ _)).mono ?_
    intro e w2 hr
    obtain ⟨A2, n2, c2, rfl, hn2, hl2, -, hc2, hb2⟩ := hr.open_
    have H2 := Lib.hid (show P.length = n2 ∧ n2 ≤ 9223372036854775807 from ⟨hn2, hl2⟩)
    have HC2 := Lib.hid hc2
    have HB2 := Lib.hid hb2
    clear hr hn2 hl2 hc2 hb2
    go_wp2_with fail
    refine (HRS.out w2 HB2.out).mono ?_
    intro e w3 hr
    obtain ⟨A3, n3, c3, rfl, hn3, hl3, -, hc3, hb3⟩ := hr.open_
    obtain rfl : n2 = n3 := H2.out.1.symm.trans hn3
    have HC3 := Lib.hid hc3
    have HB3 := Lib.hid hb3
    clear hr hn3 hl3 hc3 hb3
    go_wp2_with fail
    refine (HBO.out w3 (bstep HB2.out HB3.out)).mono ?_
    intro e w4 hr
    obtain ⟨A4, n4, c4, rfl, hn4, hl4, -, hc4, hb4⟩ := hr.open_
    have H4 := Lib.hid (show Q.length = n4 ∧ n4 ≤ 9223372036854775807 from ⟨hn4, hl4⟩)
    have HC4 := Lib.hid hc4
    have HB4 := Lib.hid hb4
    clear hr hn4 hl4 hc4 hb4
    go_wp2_with fail
    refine (HRB.out w4 (bstep (bstep HB2.out HB3.out) HB4.out)).mono ?_
    intro e w5 hr
    obtain ⟨A5, n5, c5, rfl, hn5, hl5, -, hc5, hb5⟩ := hr.open_
    obtain rfl : n4 = n5 := H4.out.1.symm.trans hn5
    have HC5 := Lib.hid hc5
    have HB5 := Lib.hid hb5
    clear hr hn5 hl5 hc5 hb5
    go_wp2_with fail
    refine (same_yes P n2 H2.out.1 A2 A3 c2 c3 w5 (HC2.out.on (bstep (bstep HB3.out HB4.out) HB5.out)) (HC3.out.on (bstep HB4.out HB5.out)) H2.out.2).mono ?_
    rintro e w6 ⟨rfl, hb6⟩
    have HB6 := Lib.hid hb6
    clear hb6
    go_wp2_with fail
    refine (same_yes Q n4 H4.out.1 A4 A5 c4 c5 w6 (HC4.out.on (bstep HB5.out HB6.out)) (HC5.out.on HB6.out) H4.out.2).mono ?_
    rintro e w7 ⟨rfl, hb7⟩
    have HB7 := Lib.hid hb7
    clear hb7
    go_wp2_with fail
    refine (awake_true _).mono ?_
    rintro e w8 ⟨rfl, hb8⟩
    have HB8 := Lib.hid hb8
    clear hb8
    go_wp2_with fail
    go_ret
    exact ⟨rfl, bstep HB1.out (bstep (bstep (bstep (bstep (bstep (bstep HB2.out HB3.out) HB4.out) HB5.out) HB6.out) HB7.out) HB8.out)⟩

set_option maxHeartbeats 3200000 in
theorem walk_ShareEvens (w : World) (t m : Int) :
    Calls Try.prog 4 #[.int .i64 t, .int .i64 m] w fun e w' => e = .returned (.bool true) ∧ Below w.heap.size w w' := by
  obtain ⟨P, hP⟩ : ∃ P, P = evL t m := ⟨_, rfl⟩
  obtain ⟨E, hE⟩ : ∃ E, E = evE t m := ⟨_, rfl⟩
  have HEV := Lib.hid (fun W => share_even t m W)
  have HRE := Lib.hid (fun W => ref_even t m W)
  rw [← hP, ← hE] at HEV HRE
  by_cases hm : m < 1 ∨ 512 < m
  · clear hP hE
    rcases hm with h | h
    · go_enter Try.func4, Try.ntmps4
      go_wp2_with fail
      refine (HEV.out w).mono ?_
      intro e w1 hr
      obtain ⟨A1, n1, c1, rfl, hn1, hl1, -, hc1, hb1⟩ := hr.open_
      have H1 := Lib.hid (show P.length = n1 ∧ n1 ≤ 9223372036854775807 from ⟨hn1, hl1⟩)
      have HC1 := Lib.hid hc1
      have HB1 := Lib.hid hb1
      clear hr hn1 hl1 hc1 hb1
      go_wp2_with fail
      refine (HRE.out w1).mono ?_
      intro e w2 hr
      obtain ⟨A2, n2, c2, rfl, hn2, hl2, -, hc2, hb2⟩ := hr.open_
      obtain rfl : n1 = n2 := H1.out.1.symm.trans hn2
      have HC2 := Lib.hid hc2
      have HB2 := Lib.hid hb2
      clear hr hn2 hl2 hc2 hb2
      go_wp2_with fail
      refine (same_yes P n1 H1.out.1 A1 A2 c1 c2 w2 (HC1.out.on HB2.out) HC2.out H1.out.2).mono ?_
      rintro e w3 ⟨rfl, hb3⟩
      have HB3 := Lib.hid hb3
      clear hb3
      go_wp2_with fail
      refine (awake_true _).mono ?_
      rintro e w5 ⟨rfl, hb5⟩
      have HB5 := Lib.hid hb5
      clear hb5
      go_wp2_with fail
      go_ret
      exact ⟨rfl, bstep (bstep (bstep HB1.out HB2.out) HB3.out) HB5.out⟩
    · have h1 : ¬ m < 1 := by omega
      go_enter Try.func4, Try.ntmps4
      go_wp2_with fail
      refine (HEV.out w).mono ?_
      intro e w1 hr
      obtain ⟨A1, n1, c1, rfl, hn1, hl1, -, hc1, hb1⟩ := hr.open_
      have H1 := Lib.hid (show P.length = n1 ∧ n1 ≤ 9223372036854775807 from ⟨hn1, hl1⟩)
      have HC1 := Lib.hid hc1
      have HB1 := Lib.hid hb1
      clear hr hn1 hl1 hc1 hb1
      go_wp2_with fail
      refine (HRE.out w1).mono ?_
      intro e w2 hr
      obtain ⟨A2, n2, c2, rfl, hn2, hl2, -, hc2, hb2⟩ := hr.open_
      obtain rfl : n1 = n2 := H1.out.1.symm.trans hn2
      have HC2 := Lib.hid hc2
      have HB2 := Lib.hid hb2
      clear hr hn2 hl2 hc2 hb2
      go_wp2_with fail
      refine (same_yes P n1 H1.out.1 A1 A2 c1 c2 w2 (HC1.out.on HB2.out) HC2.out H1.out.2).mono ?_
      rintro e w3 ⟨rfl, hb3⟩
      have HB3 := Lib.hid hb3
      clear hb3
      go_wp2_with fail
      refine (awake_true _).mono ?_
      rintro e w5 ⟨rfl, hb5⟩
      have HB5 := Lib.hid hb5
      clear hb5
      go_wp2_with fail
      go_ret
      exact ⟨rfl, bstep (bstep (bstep HB1.out HB2.out) HB3.out) HB5.out⟩
  · obtain ⟨N, rfl⟩ : ∃ N : Nat, m = (N : Int) := ⟨m.toNat, by omega⟩
    have HN := Lib.hid (show 1 ≤ N ∧ N ≤ 512 by omega)
    have hev := ev_in (t := t) HN.out.1 HN.out.2
    have HSP := Lib.hid (fun (A : Option Addr) (c : Nat) (W : World) (hS : Cl eI W A (List.replicate N 1)) => split_n t (List.replicate N 1) N (by simp) A c W hS (by have := HN.out; omega))
    rw [← hev.1, ← hev.2, ← hP, ← hE] at HSP
    have h1 : ¬ (N : Int) < 1 := by omega
    have h2 : ¬ (512 : Int) < (N : Int) := by omega
    have h3 : 1 ≤ N := HN.out.1
    have h4 : ¬ 512 < N := by have := HN.out; omega
    have hmk := fun W => make_ints N (by have := HN.out; omega) W
    clear hev hm hP hE
    go_enter Try.func4, Try.ntmps4
    go_wp2_with fail
    refine (HEV.out w).mono ?_
    intro e w1 hr
    obtain ⟨A1, n1, c1, rfl, hn1, hl1, -, hc1, hb1⟩ := hr.open_
    have H1 := Lib.hid (show P.length = n1 ∧ n1 ≤ 9223372036854775807 from ⟨hn1, hl1⟩)
    have HC1 := Lib.hid hc1
    have HB1 := Lib.hid hb1
    clear hr hn1 hl1 hc1 hb1
    go_wp2_with fail
    refine (HRE.out w1).mono ?_
    intro e w2 hr
    obtain ⟨A2, n2, c2, rfl, hn2, hl2, -, hc2, hb2⟩ := hr.open_
    obtain rfl : n1 = n2 := H1.out.1.symm.trans hn2
    have HC2 := Lib.hid hc2
    have HB2 := Lib.hid hb2
    clear hr hn2 hl2 hc2 hb2
    go_wp2_with fail
    refine (same_yes P n1 H1.out.1 A1 A2 c1 c2 w2 (HC1.out.on HB2.out) HC2.out H1.out.2).mono ?_
    rintro e w3 ⟨rfl, hb3⟩
    have HB3 := Lib.hid hb3
    clear hb3
    go_upto_region 8 with fail
    have HOP0 := Lib.hid (one_made w3 N (by have := HN.out; omega))
    have HBC0 := Lib.hid (below_alloc w3 (zeros N))
    obtain ⟨w4, hw4⟩ : ∃ W, w3.alloc (zeros N) = W := ⟨_, rfl⟩
    obtain ⟨gp, hgp⟩ : ∃ g, w3.heap.size = g := ⟨_, rfl⟩
    have HGP := Lib.hid hgp
    have HBC : Hid (Below gp w3 w4) := hgp ▸ hw4 ▸ HBC0.out
    have HOP : Hid (Own eI 3 gp w4 (.slice (some ⟨gp, 0, none⟩) N N) (lst (fun _ => 0) N)) := hgp ▸ hw4 ▸ HOP0.out
    rw [hw4, hgp]
    clear hw4 hgp hmk HOP0 HBC0
    obtain ⟨f, hf⟩ : ∃ f : Nat → Nat, f = fun _ => 1 := ⟨_, rfl⟩
    have HF1 : Hid (∀ k, (f k : Int) = 1) := fun k => by rw [hf]; rfl
    have HFN : Hid (upL f N N = List.replicate N 1) := by
      show _ = _
      rw [upL_all, hf]; unfold lst; rw [List.map_const', List.length_range]; rfl
    clear hf
    go_wp2_with fail
    go_loopw [10] (fun x wr => ∃ k : Nat, x = .int .i64 (k : Int) ∧ k ≤ N ∧ Own eI 3 gp wr (.slice (some ⟨gp, 0, none⟩) N N) (upL f k N) ∧ Below gp w3 wr) (fun x _ => N - (RowKit.intOf x).toNat)
    case atStart => exact ⟨0, rfl, Nat.zero_le _, by rw [upL_zero]; exact HOP.out, HBC.out⟩
    case round =>
      obtain ⟨k, rfl, hk, hop, hbel⟩ := hrel
      have HOP2 := Lib.hid hop
      have HB := Lib.hid hbel
      clear hop hbel
      rcases Nat.lt_or_ge k N with hlt | hge
      · have cp := HOP2.out.cell (upL_at f hlt)
        have fp := HOP2.out.warm (upL_len f k N).symm k
        have HPP : Hid (Own eI 3 gp (wr.setCell ⟨gp, k, none⟩ (.int .i64 1)) (.slice (some ⟨gp, 0, none⟩) N N) (upL f (k + 1) N)) := by
          have h1 := HOP2.out.set (upL_len f k N).symm k (f k : Int)
          rw [upL_set f hlt, HF1.out] at h1
          exact h1
        have HBB : Hid (Below gp w3 (wr.setCell ⟨gp, k, none⟩ (.int .i64 1))) := below_set HB.out (p := ⟨gp, k, none⟩) (Nat.le_refl _) _
        have i1 : (k : Int) < (N : Int) := by omega
        have i2 : (0 : Int) ≤ (k : Int) := by omega
        have hk1 : IntKind.i64.wrap ((k : Int) + 1) = ((k + 1 : Nat) : Int) := wrap_id (by omega)
        have HLT := Lib.hid hlt
        clear hk hlt
        go_wp2_with fail
        go_roundw
        case rel => exact ⟨k + 1, rfl, HLT.out, HPP.out, HBB.out⟩
        case measure =>
          have := HLT.out
          simp [RowKit.intOf]; omega
      · obtain rfl : N = k := by omega
        have hcl := own_cl HOP2.out
        rw [HFN.out] at hcl
        have HSPR := Lib.hid (HSP.out _ N wr hcl)
        have HBR : Hid (Below w3.heap.size w3 wr) := HGP.out.symm ▸ HB.out
        clear hk hge hcl
        go_wp2_with fail
        refine HSPR.out.mono ?_
        intro e w5 hr
        obtain ⟨A5, n5, c5, rfl, hn5, hl5, -, hc5, hb5⟩ := hr.open_
        obtain rfl : n1 = n5 := H1.out.1.symm.trans hn5
        have HC5 := Lib.hid hc5
        have HB5 := Lib.hid hb5
        clear hr hn5 hl5 hc5 hb5
        go_wp2_with fail
        refine (same_yes P n1 H1.out.1 A1 A5 c1 c5 w5 (HC1.out.on (bstep (bstep (bstep HB2.out HB3.out) HBR.out) HB5.out)) HC5.out H1.out.2).mono ?_
        rintro e w6 ⟨rfl, hb6⟩
        have HB6 := Lib.hid hb6
        clear hb6
        go_wp2_with fail
        refine (awake_true _).mono ?_
        rintro e w7 ⟨rfl, hb7⟩
        have HB7 := Lib.hid hb7
        clear hb7
        go_wp2_with fail
        go_ret
        exact ⟨rfl, bstep (bstep (bstep (bstep (bstep (bstep HB1.out HB2.out) HB3.out) HBR.out) HB5.out) HB6.out) HB7.out⟩
#print axioms longer_run
#print axioms walk_ShareSplits
#print axioms walk_ShareEvens
end Go.Proofs.Ytdolhanniiejfaa.Share
