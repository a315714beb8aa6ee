/- shortest; Cycle. -/
import Derived.Test.YtlbknnafecdakaaGraphCC
namespace Go.Proofs.Ytlbknnafecdakaa.Graph
open Go.ChangeShapes Go.WideShapes Go.RowKit Go.Lib
set_option linter.unusedVariables false
set_option maxRecDepth 100000

theorem eql_nil (W : World) (a : Option Addr) (n c : Nat) : (binOp .eql 29 (.slice a n c) (.slice none 0 0)).run Try.prog W = .ok (.bool a.isNone) W := by
  simp only [binOp]
  simp [Op.equal, Op.maxDepth, Lib.run_equalIn_slice_nil W 9999 29 3 a n c 0 0 Try.underlying29]
/-- The head of the loop: the list so far and the node behind it. -/
structure Sho (L : Arcs) (n r : Nat) (C : List Nat) (mo x : Nat) : Prop where
  len : mo = C.length
  pos : 0 < mo
  le : mo ≤ r
  beg : Beg L n r C
  nxt : ∀ y, C[C.length - 1]? = some y → (y, x) ∈ L ∧ W L (r - mo) x n ∧ ∀ z, z < x → (y, z) ∈ L → ¬ W L (r - mo) z n
theorem Sho.more {L : Arcs} {n r : Nat} {C : List Nat} {mo x : Nat} (h : Sho L n r C mo x) (hx : x ≠ n) : mo < r ∧ Beg L n r (C ++ [x]) ∧ W L mo n x ∧ W L (r - (mo + 1) + 1) x n := by
  have hp := h.pos
  have hl := h.le
  have hlen := h.len
  obtain ⟨y, hy⟩ := get_lt (L := C) (k := C.length - 1) (by omega)
  obtain ⟨h1, h2, h3⟩ := h.nxt y hy
  have hlt : mo < r := by
    rcases Nat.lt_or_eq_of_le hl with h4 | h4
    · exact h4
    · rw [show r - mo = 0 by omega] at h2
      exact absurd h2 hx
  refine ⟨hlt, h.beg.snoc (by omega) hy h1 (by rw [← hlen]; exact h2) (by rw [← hlen]; exact h3), ?_, by rw [show r - (mo + 1) + 1 = r - mo by omega]; exact h2⟩
  have := (h.beg.to _ hy).snoc h1
  rw [show C.length - 1 + 1 = mo by omega] at this
  exact this
theorem Sho.done {L : Arcs} {n r : Nat} {C : List Nat} {mo : Nat} (h : Sho L n r C mo n) (hlo : ∀ k, k < n → ¬ Cy L k) (hcw : W L r n n) (hm : ∀ j, 0 < j → j < r → ¬ W L j n n) : IsC L n C := by
  have hp := h.pos
  have hl := h.le
  have hlen := h.len
  obtain ⟨y, hy⟩ := get_lt (L := C) (k := C.length - 1) (by omega)
  obtain ⟨h1, h2, h3⟩ := h.nxt y hy
  have hw := (h.beg.to _ hy).snoc h1
  rw [show C.length - 1 + 1 = mo by omega] at hw
  have : mo = r := by
    rcases Nat.lt_or_eq_of_le hl with h4 | h4
    · exact absurd hw (hm mo hp h4)
    · exact h4
  exact h.beg.whole (by omega) hlo hcw hm

set_option maxHeartbeats 3200000 in
theorem graph_shortest (N : Nat) (L : Arcs) (H : List (List Int)) (S : List Int) (A : Option Addr) (gS n r : Nat) (w0 w : World) (hN : N ≤ 64) (hL : L.length ≤ 512) (hok : Ok N L) (hH : IsH N L H) (hn : n < N) (hd : Hd w0 A H) (hb : Below w0.heap.size w0 w) (hg : w0.heap.size ≤ gS)
    (hc : Cl eI w (some ⟨gS, 0, none⟩) S) (hS : IsS N L n S) (hlo : ∀ k, k < n → ¬ Cy L k) (hr : 0 < r) (hrN : r ≤ 64) (hcw : W L r n n) (hm : ∀ j, 0 < j → j < r → ¬ W L j n n) :
    Calls Try.prog 35 #[.slice A N N, .slice (some ⟨gS, 0, none⟩) N N, .int .i64 (n : Int)] w fun e w' => ∃ (g c' m : Nat) (C : List Nat), e = .returned (.slice (some ⟨g, 0, none⟩) m c') ∧ m = C.length ∧ m ≤ 64 ∧ IsC L n C ∧ Cl eI w' (some ⟨g, 0, none⟩) (toI C) ∧ Below w.heap.size w w' := by
  have HNX : Hid (∀ (x k j : Nat) (gh gs : Nat) (W0 : World), x < N → Nx w0 W0 gh gs gS N A H S → W L j n x → j + 1 + k = r → W L (k + 1) x n → Calls Try.prog 43 #[.int .i64 (x : Int), .pointer (some ⟨gh, 0, none⟩), .pointer (some ⟨gs, 0, none⟩)] W0 fun e w' => ∃ p : Nat, e = .returned (.int .i64 (p : Int)) ∧ ((x, p) ∈ L ∧ W L k p n ∧ ∀ z, z < p → (x, z) ∈ L → ¬ W L k z n) ∧ Below W0.heap.size W0 w') := by
    intro x k j gh gs W0 hx hnx hw he hw2
    obtain ⟨l, hl⟩ := get_lt (L := H) (k := x) (by rw [hH.1]; exact hx)
    have hL2 := hH.2 x l hl
    have hl0 : 0 < l.length := by
      obtain ⟨z, hz, _⟩ := hw2
      obtain ⟨t, ht⟩ := List.mem_iff_getElem?.mp ((hL2.2.2 (z : Int)).mpr ⟨z, rfl, hz⟩)
      have := lt_of_get ht; omega
    refine (next_run N L H S A gh gs gS x w0 W0 hN hL hok hH hx hnx l hl hl0).mono ?_
    rintro e w' ⟨p, rfl, hp, hb⟩
    exact ⟨p, rfl, pick_next hok hm hS hw he hw2 hL2.1 hL2.2.2 hp, hb⟩
  have HOK := Lib.hid hok
  have HLO := Lib.hid hlo
  have HCW := Lib.hid hcw
  have HM := Lib.hid hm
  have HNN := Lib.hid hn
  have HENV : Hid (Nx w0 ((w.alloc (.cells #[.slice A N N] 46)).alloc (.cells #[.slice (some ⟨gS, 0, none⟩) N N] 29)) w.heap.size (w.heap.size + 1) gS N A H S) := by
    have hb2 : Below w.heap.size w ((w.alloc (.cells #[.slice A N N] 46)).alloc (.cells #[.slice (some ⟨gS, 0, none⟩) N N] 29)) := bstep (below_alloc _ _) (below_alloc _ _)
    refine ⟨((below_alloc _ _).cell (p := ⟨w.heap.size, 0, none⟩) (by simp)).trans (new_one _ _ _ rfl), new_one _ _ _ (by simp), fun i z hz => ?_, hd, hS.1, bstep hb hb2, by have := hb.size; omega, hg, by rw [World.size_alloc, World.size_alloc]; omega, by rw [World.size_alloc, World.size_alloc]; omega, fun h0 => ?_⟩
    · obtain ⟨b, off, e, hlt, hcell⟩ := hc i z hz
      cases e
      rw [Nat.zero_add] at hcell
      exact (hb2.cell (p := ⟨gS, i, none⟩) hlt).trans hcell
    · obtain ⟨z, hz⟩ := get_lt (L := S) (k := 0) (by rw [hS.1]; exact h0)
      obtain ⟨b, off, e, hlt, _⟩ := hc 0 z hz
      cases e
      exact Nat.lt_of_lt_of_le hlt hb2.size
  clear hok hH hd hb hc hS hlo hcw hm
  go_enter Try.func35, Try.ntmps35
  go_upto_region 1 with fail
  obtain ⟨w1, hw1⟩ : ∃ W, (w.alloc (.cells #[.slice A N N] 46)).alloc (.cells #[.slice (some ⟨gS, 0, none⟩) N N] 29) = W := ⟨_, rfl⟩
  have HB1 : Hid (Below w.heap.size w w1) := hw1 ▸ bstep (below_alloc _ _) (below_alloc _ _)
  rw [hw1] at HENV ⊢
  clear hw1
  have HO1 := Lib.hid (own_lit1 (t := 3) w1 (n : Int))
  go_upto_region 3 with fail
  obtain ⟨w2, hw2⟩ : ∃ W, w1.alloc (.cells #[.int .i64 (n : Int)] 3) = W := ⟨_, rfl⟩
  have HO2 : Hid (Own eI 3 w1.heap.size w2 (.slice (some ⟨w1.heap.size, 0, none⟩) 1 1) [(n : Int)]) := hw2 ▸ HO1.out
  have HB2 : Hid (Below w1.heap.size w1 w2) := hw2 ▸ below_alloc _ _
  have HE2 := Lib.hid (HENV.out.on HB2.out)
  rw [hw2]
  clear hw2 HO1
  have HC0 := Lib.hid (HNX.out n (r - 1) 0 w.heap.size (w.heap.size + 1) w2 HNN.out HE2.out rfl (by omega) (by rw [show r - 1 + 1 = r by omega]; exact HCW.out))
  go_wp2_with fail
  refine HC0.out.mono ?_
  rintro e w3 ⟨p, rfl, hp, hb3⟩
  have HSH : Hid (Sho L n r [n] 1 p) := ⟨rfl, by omega, hr, Beg.one hr, fun y hy => by
    have : n = y := by simpa using hy
    subst this; exact hp⟩
  have HO3 := Lib.hid (HO2.out.on hb3)
  have HB3 : Hid (Below w1.heap.size w1 w3) := bstep HB2.out hb3
  have HPN : Hid (p < N) := (HOK.out n p hp.1).2
  clear hp hb3
  go_wp2_with fail
  go_loopg [8, 9] r (fun gk v i wr => ∃ (C : List Nat) (x mo co go : Nat), v = .slice (some ⟨go, 0, none⟩) mo co ∧ i = .int .i64 (x : Int) ∧ x < N ∧ r - mo ≤ gk ∧ Sho L n r C mo x ∧ Own eI 3 w1.heap.size wr (.slice (some ⟨go, 0, none⟩) mo co) (toI C) ∧ Below w1.heap.size w1 wr)
  case atStart => exact ⟨[n], p, 1, 1, w1.heap.size, rfl, rfl, HPN.out, Nat.sub_le _ _, HSH.out, HO3.out, HB3.out⟩
  case round =>
    clear HSH HO3 HB3 HPN
    obtain ⟨C, x, mo, co, go, rfl, rfl, hxN, hgk, hsh, ho, hbel⟩ := hrel
    have HSH := Lib.hid hsh
    have HO := Lib.hid ho
    have HW := Lib.hid hbel
    have HGK := Lib.hid hgk
    have HXN := Lib.hid hxN
    clear hsh ho hbel hgk hxN
    by_cases hxn : x = n
    · subst hxn
      have HIC := Lib.hid (HSH.out.done HLO.out HCW.out HM.out)
      have HBZ := Lib.hid (bstep HB1.out HW.out)
      have s1 : ((x : Int) != (x : Int)) = false := by simp
      go_wp2_with fail
      go_ret
      exact ⟨go, co, mo, C, rfl, HSH.out.len, Nat.le_trans HSH.out.le hrN, HIC.out, HO.out.cl, HBZ.out⟩
    · obtain ⟨hlt, hbeg, hwx, hwn⟩ := HSH.out.more hxn
      have s1 : ((x : Int) != (n : Int)) = true := by simp; omega
      have HBG := Lib.hid hbeg
      have HWX := Lib.hid hwx
      have HWN := Lib.hid hwn
      have HLT := Lib.hid hlt
      have HTL : Hid ((toI C).length + 1 ≤ 1000000) := (by rw [toI_len, ← HSH.out.len]; omega : (toI C).length + 1 ≤ 1000000)
      clear hbeg hwx hwn hxn hlt
      go_wp2_with (at_builtin; refine append_int rfl _ _ rfl w1.heap.size (.slice (some ⟨go, 0, none⟩) mo co) (toI C) rfl (HO.out.alloc _) wr.heap.size 1 (x : Int) rfl (by simp) HTL.out (Nat.le_trans (HW.out.size) (below_alloc _ _).size) ?_; intro v' w6 hown' hg' hat; refine Hid.out ?_)
      refine Lib.hid ?_
      have HB7 : Hid (Below w1.heap.size w1 w6) := (HW.out.alloc (HW.out.size) _).trans ((HO.out.alloc _).below hg' (Nat.le_trans (HW.out.size) (below_alloc _ _).size))
      rw [← toI_snoc] at hown'
      obtain ⟨g7, c7, e7, _⟩ := hown'.blk (by rw [toI_len, List.length_append]; simp)
      have hl7 : (toI (C ++ [x])).length = mo + 1 := by rw [toI_len, List.length_append, HSH.out.len]; rfl
      rw [hl7] at e7
      subst e7
      have HOI7 := Lib.hid hown'
      have HE7 := Lib.hid (HENV.out.on HB7.out)
      have HC1 := Lib.hid (HNX.out x (r - (mo + 1)) mo w.heap.size (w.heap.size + 1) w6 HXN.out HE7.out HWX.out (by have := HLT.out; omega) HWN.out)
      clear hown' hg' hat hl7
      go_wp2_with fail
      refine HC1.out.mono ?_
      rintro e w8 ⟨p, rfl, hp, hb8⟩
      have HO8 := Lib.hid (HOI7.out.on hb8)
      have HB8 : Hid (Below w1.heap.size w1 w8) := bstep HB7.out hb8
      have HPN : Hid (p < N) := (HOK.out x p hp.1).2
      have HSH2 : Hid (Sho L n r (C ++ [x]) (mo + 1) p) := ⟨by rw [List.length_append, ← HSH.out.len]; rfl, by omega, by have := HLT.out; omega, HBG.out, fun y hy => by
        have : x = y := by
          rw [List.length_append, List.length_singleton, Nat.add_sub_cancel, List.getElem?_append_right (Nat.le_refl _), Nat.sub_self] at hy
          simpa using hy
        subst this; exact hp⟩
      clear hp hb8
      go_wp2_with fail
      go_roundg (r - (mo + 1))
      case measure => have := HGK.out; have := HLT.out; omega
      case rel => exact ⟨C ++ [x], p, mo + 1, c7, g7, rfl, rfl, HPN.out, Nat.le_refl _, HSH2.out, HO8.out, HB8.out⟩

set_option maxHeartbeats 3200000 in
theorem graph_Cycle (n : Int) (zs : List Pr) (A : Option Addr) (c : Nat) (w : World) (ha : Ars w A zs) (hm : zs.length ≤ 9223372036854775807) :
    Calls Try.prog 19 #[.agg #[.int .i64 n, .slice A zs.length c]] w (Res eI w (CycP n zs)) := by
  have HA := Lib.hid ha
  clear ha
  go_enter Try.func19, Try.ntmps19
  go_wp2_with fail
  obtain ⟨w1, hw1⟩ : ∃ W, w.alloc (.cells #[.int .i64 n, .slice A zs.length c] 24) = W := ⟨_, rfl⟩
  have HX1 : Hid (Bx w1 w.heap.size n A zs.length c) := hw1 ▸ Bx.new _ _ _ _ _ _
  have HB1 : Hid (Below w.heap.size w w1) := hw1 ▸ below_alloc _ _
  rw [hw1]
  clear hw1
  obtain ⟨_, x0, x1⟩ := HX1.out
  go_step3
  go_wp2_with fail
  refine (graph_Check n zs A c w1 (HA.out.on HB1.out) hm).mono ?_
  rintro e w2 ⟨rfl, hb2⟩
  have HB2 := Lib.hid (bstep HB1.out hb2)
  have HX2 := Lib.hid (HX1.out.on hb2)
  clear hb2 x0 x1
  by_cases hz : chkE n zs = 0
  · obtain ⟨N, L, hg⟩ := gph_of hz
    have HG := Lib.hid hg
    rw [hz]
    obtain rfl := hg.n
    obtain rfl := hg.zs
    have hlen : (asI L).length = L.length := asI_len L
    rw [hlen] at HX2 ⊢
    have hN := hg.le
    clear hz hg hlen
    obtain ⟨_, x0, x1⟩ := HX2.out
    have HH := Lib.hid (graph_headsOf N L A c w2 HG.out.le HG.out.ln HG.out.ok (HA.out.on HB2.out))
    go_wp2_with fail
    refine HH.out.mono ?_
    rintro e w3 ⟨A3, H, rfl, hH, hd, hb3⟩
    have HB3 := Lib.hid (bstep HB2.out hb3)
    have HX3 := Lib.hid (HX2.out.on hb3)
    have HHD := Lib.hid hd
    have HIH := Lib.hid hH
    clear hH hd hb3 x0 x1
    obtain ⟨_, x0, x1⟩ := HX3.out
    go_wp2_with fail
    go_step3
    go_wp2_with fail
    go_loopw [6, 19] (fun v i wr => ∃ k : Nat, k ≤ N ∧ v = .slice none 0 0 ∧ i = .int .i64 k ∧ (∀ m, m < k → ¬ Cy L m) ∧ Below w3.heap.size w3 wr) (fun _ i _ => N - (intOf i).toNat)
    case atStart => exact ⟨0, Nat.zero_le _, rfl, rfl, fun m h => by omega, Below.refl _ _⟩
    case round =>
      clear x0 x1
      obtain ⟨k, hk, rfl, rfl, hv, hbel⟩ := hrel
      have HV := Lib.hid hv
      have HW := Lib.hid hbel
      clear hv hbel
      rcases Nat.lt_or_ge k N with hlt | hge
      · obtain ⟨l, hl⟩ := get_lt (L := H) (k := k) (by rw [HIH.out.1]; exact hlt)
        have HL1 := Lib.hid (HIH.out.2 k l hl)
        obtain ⟨b, off, rfl, hb, A', c', e1, e2, e3, e4⟩ := HHD.out k l hl
        have e1 := (HW.out.cell (p := ⟨b, off + k, none⟩) hb).trans e1
        have HE4 := Lib.hid e4
        obtain ⟨q, hq⟩ : ∃ q, q = l.length := ⟨_, rfl⟩
        have HQ := Lib.hid hq
        have hq5 : q ≤ 512 := by rw [hq]; have := HL1.out.2.1; have := HG.out.ln; omega
        rw [← hq] at e1 e2
        have i1 : (k : Int) < (N : Int) := by omega
        have i2 : (0 : Int) ≤ (k : Int) := by omega
        have HKN := Lib.hid hlt
        clear hq hl e4 hb
        go_wp2_with fail
        clear e1
        go_loopw [6, 27] (fun v i wr => ∃ j : Nat, j ≤ q ∧ v = .slice none 0 0 ∧ i = .int .i64 j ∧ (∀ t y : Nat, t < j → l[t]? = some (y : Int) → ¬ Rp L y k) ∧ Below w3.heap.size w3 wr) (fun _ i _ => q - (intOf i).toNat)
        case atStart => exact ⟨0, Nat.zero_le _, rfl, rfl, fun t y h => by omega, HW.out⟩
        case round =>
          clear HW
          obtain ⟨j, hj, rfl, rfl, hv2, hbel⟩ := hrel
          have HV2 := Lib.hid hv2
          have HW := Lib.hid hbel
          clear hv2 hbel
          rcases Nat.lt_or_ge j q with hlt2 | hge2
          · obtain ⟨z, hz⟩ := get_lt (L := l) (k := j) (by rw [← HQ.out]; exact hlt2)
            obtain ⟨y, rfl, hky⟩ := (HL1.out.2.2 z).mp (List.mem_of_getElem? hz)
            have hyN := (HG.out.ok k y hky).2
            obtain ⟨b2, off2, rfl, hb2, f1⟩ := HE4.out j _ hz
            have f1 := (HW.out.cell (p := ⟨b2, off2 + j, none⟩) hb2).trans f1
            have HZ := Lib.hid hz
            have HKY := Lib.hid hky
            have HRE := Lib.hid (graph_reached N L H (some ⟨b, off, none⟩) y wr HG.out.le HG.out.ln HG.out.ok HIH.out (HHD.out.on HW.out) hyN)
            clear hz hky hb2
            go_wp2_with fail
            refine HRE.out.mono ?_
            rintro e w4 ⟨A5, o, rfl, ho, hc, hb4⟩
            have HW4 : Hid (Below w3.heap.size w3 w4) := bstep HW.out hb4
            obtain ⟨xx, hxx⟩ := get_lt (L := o) (k := k) (by rw [ho.1]; exact HKN.out)
            obtain ⟨b6, off6, rfl, hb6, g6⟩ := hc k xx hxx
            have g6 : w4.cell? ⟨b6, off6 + k, none⟩ = some (.bool xx) := g6
            have HIF := Lib.hid (ho.2 k HKN.out)
            have HXX := Lib.hid hxx
            clear ho hc hb4 hxx hb6 f1
            cases xx with
            | true =>
              have hrp : Rp L y k := HIF.out.mp HXX.out
              have hcy : Cy L k := cy_of HKY.out hrp
              obtain ⟨r, hr0, hrN, hrw, hrm⟩ := hcy.short HG.out.ok
              obtain ⟨_, x0, x1⟩ := HX3.out.on HW4.out
              have HST := Lib.hid (graph_stepsTo N L k A c w4 HG.out.le HG.out.ln HG.out.ok HKN.out (HA.out.on (bstep HB3.out HW4.out)))
              have HR0 := Lib.hid hr0
              have HRN := Lib.hid hrN
              have HRW := Lib.hid hrw
              have HRM := Lib.hid hrm
              clear hrp hcy hr0 hrN hrw hrm
              go_wp2_with fail
              refine HST.out.mono ?_
              rintro e w5 ⟨gS, S, rfl, hgS, hS, hcS, hb5⟩
              have HSH := Lib.hid (graph_shortest N L H S (some ⟨b, off, none⟩) gS k r w3 w5 HG.out.le HG.out.ln HG.out.ok HIH.out HKN.out HHD.out (bstep HW4.out hb5) (Nat.le_trans HW4.out.size hgS) hcS hS HV.out HR0.out (Nat.le_trans HRN.out HG.out.le) HRW.out HRM.out)
              have HW5 : Hid (Below w3.heap.size w3 w5) := bstep HW4.out hb5
              clear hgS hS hcS hb5 x0 x1 g6
              go_wp2_with fail
              refine HSH.out.mono ?_
              rintro e w6 ⟨g, cc, m, C, rfl, hmC, hm64, hic, hcC, hb6⟩
              have HP : Hid (CycP (N : Int) (asI L) 0 (toI C)) := Or.inr ⟨N, L, HG.out, Or.inr ⟨k, C, hic, rfl, rfl⟩⟩
              have HCC := Lib.hid hcC
              have HMC : Hid ((toI C).length = m) := (by rw [toI_len, hmC] : (toI C).length = m)
              have HM64 := Lib.hid hm64
              have HBZ := Lib.hid (bstep HB3.out (bstep HW5.out hb6))
              have hnil := fun W => eql_nil W (some ⟨g, 0, none⟩) m cc
              simp only [Option.isNone_some] at hnil
              clear hmC hm64 hic hcC hb6
              go_wp2_with fail
              (try rw [Exit.noGoto_ret])
              go_ret2
              exact ⟨_, cc, toI C, 0, by rw [HMC.out]; rfl, by rw [HMC.out]; exact HM64.out, HP.out, HCC.out, HBZ.out⟩
            | false =>
              have HV3 : Hid (∀ t y : Nat, t < j + 1 → l[t]? = some (y : Int) → ¬ Rp L y k) := fun t y' ht hy' => by
                rcases Nat.lt_or_eq_of_le (Nat.le_of_lt_succ ht) with h1 | rfl
                · exact HV2.out t y' h1 hy'
                · have h2 := HZ.out
                  rw [hy'] at h2
                  have : y' = y := by have := Option.some.inj h2; omega
                  subst this
                  intro h3
                  have := HIF.out.mpr h3
                  rw [HXX.out] at this; cases this
              go_wp2_with fail
              go_roundw
              case rel => exact ⟨j + 1, by omega, rfl, by go_num, HV3.out, HW4.out⟩
              case measure => simp [intOf]; omega
          · have HJ : Hid (j = l.length) := (by rw [← HQ.out]; omega : j = l.length)
            have HV3 : Hid (∀ m, m < k + 1 → ¬ Cy L m) := fun m hm => by
              rcases Nat.lt_or_eq_of_le (Nat.le_of_lt_succ hm) with h1 | rfl
              · exact HV.out m h1
              · intro hcy
                obtain ⟨y, h1, h2⟩ := hcy.next
                obtain ⟨t, ht⟩ := List.mem_iff_getElem?.mp ((HL1.out.2.2 (y : Int)).mpr ⟨y, rfl, h1⟩)
                exact HV2.out t y (by rw [HJ.out]; exact lt_of_get ht) ht h2
            go_wp2_with fail
            go_roundw
            case rel => exact ⟨k + 1, by omega, rfl, by go_num, HV3.out, HW.out⟩
            case measure => simp [intOf]; omega
      · obtain rfl : N = k := by omega
        have HP : Hid (CycP (N : Int) (asI L) 7 []) := Or.inr ⟨N, L, HG.out, Or.inl ⟨fun m hm => HV.out m (hm.lt HG.out.ok) hm, rfl, rfl⟩⟩
        have HBZ : Hid (Below w.heap.size w wr) := bstep HB3.out HW.out
        have hnil := fun W => eql_nil W none 0 0
        simp only [Option.isNone_none] at hnil
        go_wp2_with fail
        (try rw [Exit.noGoto_ret])
        go_ret2
        exact Res.no HP.out HBZ.out
  · have HP : Hid (CycP n zs (chkE n zs) []) := Or.inl ⟨hz, rfl, rfl⟩
    have h1 : (chkE n zs == 0) = false := beq_false_of_ne hz
    have h2 : (chkE n zs != 0) = true := by simp [hz]
    obtain ⟨q, hq⟩ : ∃ q, chkE n zs = q := ⟨_, rfl⟩
    rw [hq] at h1 h2 HP ⊢
    clear hz hq
    go_wp2_with fail
    (try rw [Exit.noGoto_ret])
    go_ret2
    exact Res.no HP.out HB2.out
#print axioms graph_shortest
#print axioms graph_Cycle
end Go.Proofs.Ytlbknnafecdakaa.Graph
