/- What the functions return; Reach of both. -/
import Derived.Test.YtlbknnafecdakaaGraphL
namespace Go.Proofs.Ytlbknnafecdakaa.Graph
open Go.ChangeShapes Go.WideShapes Go.RowKit Go.Lib
set_option linter.unusedVariables false
set_option maxRecDepth 100000

/-! ### What is returned (pure) -/
/-- A graph that Check accepts. -/
structure Gph (n : Int) (zs : List Pr) (N : Nat) (L : Arcs) : Prop where
  n : n = (N : Int)
  zs : zs = asI L
  le : N ≤ 64
  ln : L.length ≤ 512
  ok : Ok N L
theorem gph_of {n : Int} {zs : List Pr} (h : chkE n zs = 0) : ∃ N L, Gph n zs N L := by
  obtain ⟨N, L, h1, h2, h3, h4, h5⟩ := chk_ok h
  exact ⟨N, L, h1, h3, h2, h4, h5⟩
theorem Gph.chk {n : Int} {zs : List Pr} {N : Nat} {L : Arcs} (h : Gph n zs N L) : chkE n zs = 0 := by
  rw [h.n, h.zs]; exact chk_of h.le h.ln h.ok
theorem asI_inj : ∀ {L M : Arcs}, asI L = asI M → L = M := by
  intro L
  induction L with
  | nil => intro M h; cases M with
    | nil => rfl
    | cons y M => simp [asI] at h
  | cons x L ih => intro M h; cases M with
    | nil => simp [asI] at h
    | cons y M =>
      simp only [asI, List.map_cons, List.cons.injEq, Prod.mk.injEq] at h
      obtain ⟨⟨h1, h2⟩, h3⟩ := h
      have := ih (M := M) h3
      subst this
      have : x = y := Prod.ext (by omega) (by omega)
      rw [this]
theorem Gph.one {n : Int} {zs : List Pr} {N M : Nat} {L K : Arcs} (h : Gph n zs N L) (k : Gph n zs M K) : N = M ∧ L = K :=
  ⟨by have := h.n; have := k.n; omega, asI_inj (h.zs.symm.trans k.zs)⟩
/-- A list and an error are returned. -/
def Res {α : Type} (enc : α → Value) (w : World) (P : Int → List α → Prop) (e : Ending) (w' : World) : Prop :=
  ∃ A c l E, e = .returned (.tuple #[.slice A l.length c, .int .i64 E]) ∧ l.length ≤ 64 ∧ P E l ∧ Cl enc w' A l ∧ Below w.heap.size w w'
theorem Res.no {α : Type} {enc : α → Value} {w w' : World} {P : Int → List α → Prop} {E : Int} (h : P E []) (hb : Below w.heap.size w w') : Res enc w P (.returned (.tuple #[.slice none 0 0, .int .i64 E])) w' :=
  ⟨none, 0, [], E, rfl, by simp, h, Cl.nil _ _ _, hb⟩
def RchP (n : Int) (zs : List Pr) (s : Int) (E : Int) (o : List Bool) : Prop :=
  (chkE n zs ≠ 0 ∧ E = chkE n zs ∧ o = []) ∨ (chkE n zs = 0 ∧ nodeB n s = false ∧ E = 7 ∧ o = []) ∨
  ∃ (N : Nat) (L : Arcs) (t : Nat), Gph n zs N L ∧ s = (t : Int) ∧ t < N ∧ E = 0 ∧ IsR N L t o
theorem node_lt {N t : Nat} (h : t < N) : nodeB (N : Int) (t : Int) = true := nodeB_ok (by omega) (by omega)
theorem RchP.one {n s : Int} {zs : List Pr} {E F : Int} {o p : List Bool} (h : RchP n zs s E o) (k : RchP n zs s F p) : E = F ∧ o = p := by
  rcases h with ⟨h1, rfl, rfl⟩ | ⟨h1, h2, rfl, rfl⟩ | ⟨N, L, t, hg, rfl, ht, rfl, ho⟩
  · rcases k with ⟨k1, rfl, rfl⟩ | ⟨k1, k2, rfl, rfl⟩ | ⟨M, K, u, kg, rfl, ku, rfl, ko⟩
    · exact ⟨rfl, rfl⟩
    · exact absurd k1 h1
    · exact absurd kg.chk h1
  · rcases k with ⟨k1, rfl, rfl⟩ | ⟨k1, k2, rfl, rfl⟩ | ⟨M, K, u, kg, rfl, ku, rfl, ko⟩
    · exact absurd h1 k1
    · exact ⟨rfl, rfl⟩
    · rw [kg.n, node_lt ku] at h2; cases h2
  · rcases k with ⟨k1, rfl, rfl⟩ | ⟨k1, k2, rfl, rfl⟩ | ⟨M, K, u, kg, e, ku, rfl, ko⟩
    · exact absurd hg.chk k1
    · rw [hg.n, node_lt ht] at k2; cases k2
    · obtain ⟨rfl, rfl⟩ := hg.one kg
      obtain rfl : t = u := by omega
      exact ⟨rfl, ho.one ko⟩
theorem node_ok {n x : Int} (h : nodeB n x = true) : 0 ≤ x ∧ x < n := by
  unfold nodeB at h; simpa using h

set_option maxHeartbeats 1600000 in
theorem graph_Reach (n : Int) (zs : List Pr) (s : Int) (A : Option Addr) (c : Nat) (w : World) (ha : Ars w A zs) (hm : zs.length ≤ 9223372036854775807) :
    Calls Try.prog 21 #[.agg #[.int .i64 n, .slice A zs.length c], .int .i64 s] w (Res eB w (RchP n zs s)) := by
  have HA := Lib.hid ha
  clear ha
  go_enter Try.func21, Try.ntmps21
  go_upto_region 1 with fail
  obtain ⟨w1, hw1⟩ : ∃ W, w.alloc (.cells #[.int .i64 n, .slice A zs.length c] 24) = W := ⟨_, rfl⟩
  have HX1 : Hid (Bx w1 w.heap.size n A zs.length c) := hw1 ▸ Bx.new _ _ _ _ _ _
  have HB1 : Hid (Below w.heap.size w w1) := hw1 ▸ below_alloc _ _
  rw [hw1]
  clear hw1
  obtain ⟨_, x0, x1⟩ := HX1.out
  go_wp2_with fail
  refine (graph_Check n zs A c w1 (HA.out.on HB1.out) hm).mono ?_
  rintro e w2 ⟨rfl, hb2⟩
  have HB2 := Lib.hid (bstep HB1.out hb2)
  have HX2 := Lib.hid (HX1.out.on hb2)
  clear hb2 x0 x1
  by_cases hz : chkE n zs = 0
  · obtain ⟨N, L, hg⟩ := gph_of hz
    have HG := Lib.hid hg
    rw [hz]
    obtain rfl := hg.n
    obtain rfl := hg.zs
    have hlen : Hid ((asI L).length = L.length) := asI_len L
    have hl := hg.ln
    clear hz hg
    obtain ⟨_, x0, x1⟩ := HX2.out
    go_wp2_with fail
    refine (graph_isNode _ _ _ _ _ w2).mono ?_
    rintro e w3 ⟨rfl, hb3⟩
    have HB3 := Lib.hid (bstep HB2.out hb3)
    have HX3 := Lib.hid (HX2.out.on hb3)
    clear hb3 x0 x1
    cases hq : nodeB (N : Int) s with
    | false =>
      have HP : Hid (RchP (N : Int) (asI L) s 7 []) := Or.inr (Or.inl ⟨HG.out.chk, hq, rfl, rfl⟩)
      go_wp2_with fail
      go_ret2
      exact Res.no HP.out HB3.out
    | true =>
      obtain ⟨s0, s1⟩ := node_ok hq
      obtain ⟨t, rfl⟩ : ∃ t : Nat, s = (t : Int) := ⟨s.toNat, by omega⟩
      have htN : t < N := by omega
      have HT := Lib.hid htN
      clear hq s0 s1
      obtain ⟨_, x0, x1⟩ := HX3.out
      have HH := Lib.hid (graph_headsOf N L A c w3 HG.out.le HG.out.ln HG.out.ok (HA.out.on HB3.out))
      rw [← hlen.out] at HH
      go_wp2_with fail
      refine HH.out.mono ?_
      rintro e w4 ⟨A4, H, rfl, hH, hd, hb4⟩
      have HB4 := Lib.hid (bstep HB3.out hb4)
      have HR := Lib.hid (graph_reached N L H A4 t w4 HG.out.le HG.out.ln HG.out.ok hH hd HT.out)
      clear hH hd hb4 x0 x1
      go_wp2_with fail
      refine HR.out.mono ?_
      rintro e w5 ⟨A5, o, rfl, ho, hc, hb5⟩
      have HP : Hid (RchP (N : Int) (asI L) (t : Int) 0 o) := Or.inr (Or.inr ⟨N, L, t, HG.out, rfl, HT.out, rfl, ho⟩)
      have HC := Lib.hid hc
      have HB5 := Lib.hid (bstep HB4.out hb5)
      have HOL := Lib.hid ho.1
      clear ho hc hb5
      go_wp2_with fail
      go_ret2
      exact ⟨A5, N, o, 0, by rw [HOL.out]; rfl, by rw [HOL.out]; exact HG.out.le, HP.out, HC.out, HB5.out⟩
  · have HP : Hid (RchP n zs s (chkE n zs) []) := Or.inl ⟨hz, rfl, rfl⟩
    have h1 : (chkE n zs == 0) = false := beq_false_of_ne hz
    have h2 : (chkE n zs != 0) = true := by simp [hz]
    obtain ⟨q, hq⟩ : ∃ q, chkE n zs = q := ⟨_, rfl⟩
    rw [hq] at h1 h2 HP ⊢
    clear hz hq
    go_wp2_with fail
    go_ret2
    exact Res.no HP.out HB2.out

set_option maxHeartbeats 1600000 in
theorem ref_Reach (n : Int) (zs : List Pr) (s : Int) (A : Option Addr) (c : Nat) (w : World) (ha : Ars w A zs) (hm : zs.length ≤ 9223372036854775807) :
    Calls Try.prog 22 #[.agg #[.int .i64 n, .slice A zs.length c], .int .i64 s] w (Res eB w (RchP n zs s)) := by
  have HA := Lib.hid ha
  clear ha
  go_enter Try.func22, Try.ntmps22
  go_upto_region 1 with fail
  obtain ⟨w1, hw1⟩ : ∃ W, w.alloc (.cells #[.int .i64 n, .slice A zs.length c] 24) = W := ⟨_, rfl⟩
  have HX1 : Hid (Bx w1 w.heap.size n A zs.length c) := hw1 ▸ Bx.new _ _ _ _ _ _
  have HB1 : Hid (Below w.heap.size w w1) := hw1 ▸ below_alloc _ _
  rw [hw1]
  clear hw1
  obtain ⟨_, x0, x1⟩ := HX1.out
  go_wp2_with fail
  refine (ref_Check n zs A c w1 (HA.out.on HB1.out) hm).mono ?_
  rintro e w2 ⟨rfl, hb2⟩
  have HB2 := Lib.hid (bstep HB1.out hb2)
  have HX2 := Lib.hid (HX1.out.on hb2)
  clear hb2 x0 x1
  by_cases hz : chkE n zs = 0
  · obtain ⟨N, L, hg⟩ := gph_of hz
    have HG := Lib.hid hg
    rw [hz]
    obtain rfl := hg.n
    obtain rfl := hg.zs
    have hl := hg.ln
    have hN := hg.le
    have hlen : Hid ((asI L).length = L.length) := asI_len L
    clear hz hg
    obtain ⟨_, x0, x1⟩ := HX2.out
    by_cases hs0 : s < 0
    · have HP : Hid (RchP (N : Int) (asI L) s 7 []) := Or.inr (Or.inl ⟨HG.out.chk, nodeB_lo hs0, rfl, rfl⟩)
      go_wp2_with fail
      go_ret2
      exact Res.no HP.out HB2.out
    have d0 : decide (s < 0) = false := decide_eq_false hs0
    by_cases hs1 : (N : Int) ≤ s
    · have HP : Hid (RchP (N : Int) (asI L) s 7 []) := Or.inr (Or.inl ⟨HG.out.chk, nodeB_hi hs1, rfl, rfl⟩)
      go_wp2_with fail
      go_ret2
      exact Res.no HP.out HB2.out
    have d1 : decide ((N : Int) ≤ s) = false := decide_eq_false hs1
    obtain ⟨t, rfl⟩ : ∃ t : Nat, s = (t : Int) := ⟨s.toNat, by omega⟩
    have htN : t < N := by omega
    have HT := Lib.hid htN
    have j1 : (t : Int) < (N : Int) := by omega
    have j2 : (0 : Int) ≤ (t : Int) := by omega
    have hmk := fun W => make_bools N (by omega) W
    clear hs0 hs1
    have HO1 := Lib.hid (own_made eB 4 w2 N false (by omega))
    go_upto_region 7 with fail
    obtain ⟨wm, hwm⟩ : ∃ W, w2.alloc (.cells (madeCells #[.bool false] N) 4) = W := ⟨_, rfl⟩
    have HBM : Hid (Below w2.heap.size w2 wm) := hwm ▸ below_alloc _ _
    have HOM : Hid (Own eB 4 w2.heap.size wm (.slice (some ⟨w2.heap.size, 0, none⟩) N N) (List.replicate N false)) := hwm ▸ HO1.out
    rw [hwm]
    have y0 : wm.cell? ⟨w2.heap.size, t, none⟩ = some (.bool false) := HOM.out.cell (j := t) (b := false) (by rw [List.getElem?_replicate, if_pos htN])
    have y1 := HOM.out.warm (by simp) t
    have HO2 := Lib.hid (HOM.out.set (by simp) t true)
    clear hwm HO1 hmk
    go_upto_region 9 with fail
    obtain ⟨w3, hw3⟩ : ∃ W, wm.setCell ⟨w2.heap.size, t, none⟩ (.bool true) = W := ⟨_, rfl⟩
    have HB3 : Hid (Below w2.heap.size w2 w3) := hw3 ▸ HBM.out.setCell (p := ⟨w2.heap.size, t, none⟩) (Nat.le_refl _) _
    have HO3 : Hid (Own eB 4 w2.heap.size w3 (.slice (some ⟨w2.heap.size, 0, none⟩) N N) ((List.replicate N false).set t true)) := hw3 ▸ HO2.out
    rw [hw3]
    clear hw3 y0 y1 HO2 HOM HBM
    go_loopw [8] (fun i wr => ∃ (k : Nat) (o : List Bool), k ≤ N ∧ i = .int .i64 k ∧ ReI N L t k 0 o ∧ Own eB 4 w2.heap.size wr (.slice (some ⟨w2.heap.size, 0, none⟩) N N) o ∧ Below w2.heap.size w2 wr) (fun i _ => N - (intOf i).toNat)
    case atStart => exact ⟨0, _, Nat.zero_le _, rfl, ReI.start HT.out, HO3.out, HB3.out⟩
    case round =>
      clear HO3 HB3 x0 x1
      obtain ⟨k, o, hk, rfl, hr, ho, hbel⟩ := hrel
      have HRE := Lib.hid hr
      have HO := Lib.hid ho
      have HW := Lib.hid hbel
      obtain ⟨_, x0, x1⟩ := HX2.out.on hbel
      clear hr ho hbel
      rcases Nat.lt_or_ge k N with hlt | hge
      · have i1 : (k : Int) < (N : Int) := by omega
        go_wp2_with fail
        go_loopw [9] (fun i wr => ∃ (j : Nat) (p : List Bool), j ≤ L.length ∧ i = .int .i64 j ∧ ReI N L t k j p ∧ Own eB 4 w2.heap.size wr (.slice (some ⟨w2.heap.size, 0, none⟩) N N) p ∧ Below w2.heap.size w2 wr) (fun i _ => L.length - (intOf i).toNat)
        case atStart => exact ⟨0, _, Nat.zero_le _, rfl, HRE.out, HO.out, HW.out⟩
        case round =>
          clear HRE HO HW x0 x1
          obtain ⟨j, p, hj, rfl, hr, ho, hbel⟩ := hrel
          have HRE := Lib.hid hr
          have HO := Lib.hid ho
          have HW := Lib.hid hbel
          obtain ⟨_, x0, x1⟩ := HX2.out.on hbel
          clear hr ho hbel
          rcases Nat.lt_or_ge j L.length with hlt2 | hge2
          · obtain ⟨⟨a, b⟩, hab⟩ := get_lt hlt2
            obtain ⟨b0, off, rfl, hb0, f0, f1⟩ := (HA.out.on (bstep HB2.out HW.out)).nat hab
            have hN2 := HG.out.ok a b (List.mem_of_getElem? hab)
            obtain ⟨x, hx⟩ := HRE.out.get hN2.1
            obtain ⟨y, hy⟩ := HRE.out.get hN2.2
            have HAB := Lib.hid hab
            have HXX := Lib.hid hx
            have f2 := HO.out.cell hx
            have f3 := HO.out.cell hy
            have f4 := HO.out.warm (by rw [HRE.out.len]) b
            have l1 : (a : Int) < (N : Int) := by omega
            have l2 : (0 : Int) ≤ (a : Int) := by omega
            have l3 : (b : Int) < (N : Int) := by omega
            have l4 : (0 : Int) ≤ (b : Int) := by omega
            have l5 : (j : Int) < ((asI L).length : Int) := by rw [hlen.out]; omega
            have l7 : j < (asI L).length := by rw [hlen.out]; omega
            have l6 : (0 : Int) ≤ (j : Int) := by omega
            have HO2 := Lib.hid (HO.out.set (by rw [HRE.out.len]) b true)
            have HW2 := Lib.hid (HW.out.setCell (p := ⟨w2.heap.size, b, none⟩) (Nat.le_refl _) (.bool true))
            have HOK := Lib.hid HG.out.ok
            clear hab hx hy hN2
            cases x with
            | true =>
              go_wp2_with fail
              go_roundw
              case rel => exact ⟨j + 1, _, by omega, by go_num, HRE.out.arc HOK.out HAB.out HXX.out, HO2.out, HW2.out⟩
              case measure => simp [intOf]; omega
            | false =>
              go_wp2_with fail
              go_roundw
              case rel => exact ⟨j + 1, p, by omega, by go_num, HRE.out.skip HAB.out HXX.out, HO.out, HW.out⟩
              case measure => simp [intOf]; omega
          · have HJ : Hid (j = L.length) := (by omega : j = L.length)
            have l5 : (asI L).length ≤ j := by rw [hlen.out]; omega
            go_wp2_with fail
            go_roundw
            case rel => exact ⟨k + 1, p, by omega, by go_num, (by have h := HRE.out; rw [HJ.out] at h; exact h.round), HO.out, HW.out⟩
            case measure => simp [intOf]; omega
      · have HK : Hid (k = N) := (by omega : k = N)
        have HP : Hid (RchP (N : Int) (asI L) (t : Int) 0 o) := Or.inr (Or.inr ⟨N, L, t, HG.out, rfl, HT.out, rfl, (by have h := HRE.out; rw [HK.out] at h; exact h.whole HG.out.ok HT.out)⟩)
        have HBW := Lib.hid (bstep HB2.out HW.out)
        have HOL := Lib.hid HRE.out.len
        go_wp2_with fail
        go_ret2
        exact ⟨_, N, o, 0, by rw [HOL.out]; rfl, by rw [HOL.out]; exact HG.out.le, HP.out, HO.out.cl, HBW.out⟩
  · have HP : Hid (RchP n zs s (chkE n zs) []) := Or.inl ⟨hz, rfl, rfl⟩
    have h1 : (chkE n zs == 0) = false := beq_false_of_ne hz
    have h2 : (chkE n zs != 0) = true := by simp [hz]
    obtain ⟨q, hq⟩ : ∃ q, chkE n zs = q := ⟨_, rfl⟩
    rw [hq] at h1 h2 HP ⊢
    clear hz hq
    go_wp2_with fail
    go_ret2
    exact Res.no HP.out HB2.out
#print axioms graph_Reach
#print axioms ref_Reach
end Go.Proofs.Ytlbknnafecdakaa.Graph
