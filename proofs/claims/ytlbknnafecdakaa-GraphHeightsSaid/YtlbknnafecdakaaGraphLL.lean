/- Heights. -/
import Derived.Test.YtlbknnafecdakaaGraphJJ
import Derived.Deep.RegionHeld3
namespace Go.Proofs.Ytlbknnafecdakaa.Graph
open Go.ChangeShapes Go.WideShapes Go.RowKit Go.Lib
set_option linter.unusedVariables false
set_option maxRecDepth 100000

/-- The nodes lifted by the first k arcs. -/
def Lft (N : Nat) (L : Arcs) (l : List Int) (k : Nat) (o : List Bool) : Prop :=
  o.length = N ∧ ∀ m, m < N → (o[m]? = some true ↔ ∃ i a x, i < k ∧ L[i]? = some (a, m) ∧ l[a]? = some x ∧ l[m]? = some (x + 1))
theorem Lft.start (N : Nat) (L : Arcs) (l : List Int) : Lft N L l 0 (List.replicate N false) :=
  by
  refine ⟨by simp, fun m hm => ⟨fun h => ?_, fun ⟨i, a, x, hi, _⟩ => by omega⟩⟩
  rw [List.getElem?_replicate, if_pos hm] at h
  cases h
theorem Lft.yes {N : Nat} {L : Arcs} {l : List Int} {k : Nat} {o : List Bool} (h : Lft N L l k o) {a b : Nat} {x : Int} (hk : L[k]? = some (a, b)) (hb : b < N) (h1 : l[a]? = some x) (h2 : l[b]? = some (x + 1)) : Lft N L l (k + 1) (o.set b true) := by
  refine ⟨by simp [h.1], fun m hm => ?_⟩
  by_cases he : m = b
  · subst he
    rw [get_set (by rw [h.1]; exact hb)]
    exact ⟨fun _ => ⟨k, a, x, by omega, hk, h1, h2⟩, fun _ => rfl⟩
  · rw [get_other he, h.2 m hm]
    constructor
    · rintro ⟨i, a', x', hi, h3, h4, h5⟩
      exact ⟨i, a', x', by omega, h3, h4, h5⟩
    · rintro ⟨i, a', x', hi, h3, h4, h5⟩
      refine ⟨i, a', x', ?_, h3, h4, h5⟩
      rcases Nat.lt_or_ge i k with h6 | h6
      · exact h6
      · obtain rfl : i = k := by omega
        rw [hk] at h3
        simp at h3
        exact absurd h3.2.symm he
theorem Lft.no {N : Nat} {L : Arcs} {l : List Int} {k : Nat} {o : List Bool} (h : Lft N L l k o) {a b : Nat} {x y : Int} (hk : L[k]? = some (a, b)) (h1 : l[a]? = some x) (h2 : l[b]? = some y) (hne : ¬ x + 1 = y) : Lft N L l (k + 1) o := by
  refine ⟨h.1, fun m hm => ?_⟩
  rw [h.2 m hm]
  constructor
  · rintro ⟨i, a', x', hi, h3, h4, h5⟩
    exact ⟨i, a', x', by omega, h3, h4, h5⟩
  · rintro ⟨i, a', x', hi, h3, h4, h5⟩
    refine ⟨i, a', x', ?_, h3, h4, h5⟩
    rcases Nat.lt_or_ge i k with h6 | h6
    · exact h6
    · obtain rfl : i = k := by omega
      rw [hk] at h3
      simp at h3
      obtain ⟨rfl, rfl⟩ := h3
      rw [h1] at h4
      rw [h2] at h5
      simp at h4 h5
      omega
theorem Lft.done {N : Nat} {L : Arcs} {l : List Int} {o : List Bool} (h : Lft N L l L.length o) (hok : Ok N L) (hl : IsL N L l) {m : Nat} (hm : m < N) : ∃ u : Nat, l[m]? = some (u : Int) ∧ o[m]? = some (decide (0 < u)) := by
  obtain ⟨u, h1, h2, h3⟩ := hl.2 m hm
  refine ⟨u, h1, ?_⟩
  obtain ⟨t, ht⟩ := get_lt (L := o) (k := m) (by rw [h.1]; exact hm)
  rw [ht]
  have key := h.2 m hm
  rw [ht] at key
  rcases Nat.eq_zero_or_pos u with hu | hu
  · subst hu
    have : t = false := by
      cases t with
      | false => rfl
      | true =>
        obtain ⟨i, a, x, _, hi, hx, hx2⟩ := key.mp rfl
        obtain ⟨v, g1, _, _⟩ := hl.2 a (hok a m (List.mem_of_getElem? hi)).1
        rw [g1] at hx
        rw [h1] at hx2
        simp at hx hx2
        omega
    rw [this]; rfl
  · obtain ⟨v, rfl⟩ : ∃ v, u = v + 1 := ⟨u - 1, by omega⟩
    obtain ⟨a, ha, hv⟩ := h3.below
    obtain ⟨i, hi⟩ := List.mem_iff_getElem?.mp ha
    obtain ⟨v', g1, _, g3⟩ := hl.2 a (hok a m ha).1
    obtain rfl : v' = v := g3.one hv
    have : t = true := by
      have := key.mpr ⟨i, a, (v' : Int), lt_of_get hi, hi, g1, by rw [h1]; simp⟩
      simpa using this
    rw [this]; simp

/-- Levels and Order at a sound graph. -/
theorem levels_at {N : Nat} {L : Arcs} (hN : N ≤ 64) (hL : L.length ≤ 512) (hok : Ok N L) (A : Option Addr) (c : Nat) (w : World) (ha : Ars w A (asI L)) (q : Nat) (hq : (asI L).length = q) :
    Calls Try.prog 24 #[.agg #[.int .i64 (N : Int), .slice A q c]] w fun e w' => ∃ A' c' l, e = .returned (.tuple #[.slice A' l.length c', .int .i64 (ordE N L)]) ∧ ((ordE N L = 11 ∧ l = []) ∨ (ordE N L = 0 ∧ IsL N L l)) ∧ Cl eI w' A' l ∧ Below w.heap.size w w' := by
  subst hq
  refine (graph_Levels (N : Int) (asI L) A c w ha (by rw [asI_len]; omega)).mono fun e w' h => ?_
  obtain ⟨A', c', o, E, h1, _, h2, h3, h4⟩ := h
  rcases h2 with ⟨h5, _⟩ | ⟨M, K, kg, h2⟩
  · exact absurd (chk_of hN hL hok) h5
  · have e1 : M = N := by have := kg.n; omega
    have e2 : K = L := asI_inj kg.zs.symm
    subst e1 e2
    rcases h2 with ⟨h5, rfl, rfl⟩ | ⟨R, h5, rfl, h6⟩
    · have hE : ordE M K = 11 := by unfold ordE; rw [if_pos h5]
      exact ⟨A', c', [], by rw [h1, hE], Or.inl ⟨hE, rfl⟩, h3, h4⟩
    · have hE : ordE M K = 0 := by unfold ordE; rw [if_neg (by rw [h5]; simp)]
      exact ⟨A', c', o, by rw [h1, hE], Or.inr ⟨hE, h6⟩, h3, h4⟩

set_option maxHeartbeats 3200000 in
theorem walk_GraphHeights (n : Int) (zs : List Pr) (A : Option Addr) (c : Nat) (w : World) (ha : Ars w A zs) (hm : zs.length ≤ 9223372036854775807) :
    Calls Try.prog 9 #[.agg #[.int .i64 n, .slice A zs.length c]] w fun e w' => e = .returned (.bool true) ∧ Below w.heap.size w w' := by
  have HA := Lib.hid ha
  clear ha
  go_enter Try.func9, Try.ntmps9
  go_upto_region 1 with fail
  obtain ⟨w1, hw1⟩ : ∃ W, w.alloc (.cells #[.int .i64 n, .slice A zs.length c] 24) = W := ⟨_, rfl⟩
  have HX1 : Hid (Bx w1 w.heap.size n A zs.length c) := hw1 ▸ Bx.new _ _ _ _ _ _
  have HB1 : Hid (Below w.heap.size w w1) := hw1 ▸ below_alloc _ _
  rw [hw1]
  clear hw1
  obtain ⟨_, x0, x1⟩ := HX1.out
  go_wp2_with fail
  refine (great_at n zs A c w1 hm).mono ?_
  rintro e w2 ⟨rfl, hb2⟩
  have HK2 := Lib.hid (bx_off ⟨HX1.out, HB1.out⟩ hb2)
  clear hb2 x0 x1 HX1 HB1
  cases hgr : decide (600 < (zs.length : Int)) with
  | true =>
    go_wp2_with fail
    refine (awake_true w2).mono ?_
    rintro e w3 ⟨rfl, hb3⟩
    go_wp2_with fail
    go_ret
    exact ⟨rfl, bstep HK2.out.2 hb3⟩
  | false =>
    obtain ⟨_, x0, x1⟩ := HK2.out.1
    go_wp2_with fail
    refine (ref_Check n zs A c w2 (HA.out.on HK2.out.2) hm).mono ?_
    rintro e w3 ⟨rfl, hb3⟩
    have HK3 := Lib.hid (bx_off HK2.out hb3)
    clear hb3 x0 x1 HK2
    by_cases hz : chkE n zs = 0
    · rw [hz]
      obtain ⟨N, L, hg⟩ := gph_of hz
      obtain rfl := hg.n
      obtain rfl := hg.zs
      have HG := Lib.hid hg
      obtain ⟨q, hq0⟩ : ∃ q, (asI L).length = q := ⟨_, rfl⟩
      have HQ := Lib.hid hq0
      have HQL : Hid (q = L.length) := Lib.hid (by rw [← hq0, asI_len])
      rw [hq0]
      rw [hq0] at HK3 hgr
      clear hz hg hq0
      obtain ⟨_, x0, x1⟩ := HK3.out.1
      go_wp2_with fail
      refine (levels_at HG.out.le HG.out.ln HG.out.ok A c w3 (HA.out.on HK3.out.2) q HQ.out).mono ?_
      rintro e w4 ⟨A4, c4, l, rfl, hl, k4, b4⟩
      have HK4 := Lib.hid (bx_off HK3.out b4)
      have K4 := Lib.hid k4
      have HL := Lib.hid hl
      obtain ⟨E, hE⟩ : ∃ E, ordE N L = E := ⟨_, rfl⟩
      have HE := Lib.hid hE
      rw [hE] at HL ⊢
      clear hl k4 b4 x0 x1 hE
      obtain ⟨_, x0, x1⟩ := HK4.out.1
      go_wp2_with fail
      refine (order_at HG.out.le HG.out.ln HG.out.ok A c w4 (HA.out.on HK4.out.2) q HQ.out).mono ?_
      rintro e w5 ⟨A5, m5, c5, rfl, b5⟩
      rw [HE.out]
      have HK5 := Lib.hid (bx_off HK4.out b5)
      have K5 := Lib.hid (K4.out.on b5)
      clear b5 x0 x1 K4 HE HK4
      rcases HL.out with ⟨rfl, rfl⟩ | ⟨rfl, hil⟩
      · obtain ⟨_, x0, x1⟩ := HK5.out.1
        go_wp2_with fail
        refine (awake_true w5).mono ?_
        rintro e w6 ⟨rfl, hb6⟩
        go_wp2_with fail
        go_ret
        exact ⟨rfl, bstep HK5.out.2 hb6⟩
      · have HIL := Lib.hid hil
        have hll := hil.1
        rw [hll]
        have hN := HG.out.le
        have hq5 : q ≤ 512 := by rw [HQL.out]; exact HG.out.ln
        clear hil hll HL
        obtain ⟨_, x0, x1⟩ := HK5.out.1
        have hmk := fun W => make_bools N (by omega) W
        have HO1 := Lib.hid (own_made eB 4 w5 N false (by omega))
        go_upto_region 10 with fail
        obtain ⟨wm, hwm⟩ : ∃ W, w5.alloc (.cells (madeCells #[.bool false] N) 4) = W := ⟨_, rfl⟩
        have HBM : Hid (Below w5.heap.size w5 wm) := hwm ▸ below_alloc _ _
        have HOM : Hid (Own eB 4 w5.heap.size wm (.slice (some ⟨w5.heap.size, 0, none⟩) N N) (List.replicate N false)) := hwm ▸ HO1.out
        rw [hwm]
        clear hwm HO1 hmk x0 x1
        go_wp2_with fail
        go_loopw [8] (fun i wr => ∃ (k : Nat) (o : List Bool), k ≤ q ∧ i = .int .i64 k ∧ Lft N L l k o ∧ Own eB 4 w5.heap.size wr (.slice (some ⟨w5.heap.size, 0, none⟩) N N) o ∧ Below w5.heap.size w5 wr) (fun i _ => q - (intOf i).toNat)
        case atStart => exact ⟨0, _, Nat.zero_le _, rfl, Lft.start N L l, HOM.out, HBM.out⟩
        case round =>
          clear HOM HBM
          obtain ⟨k, o, hk, rfl, hr, ho, hbel⟩ := hrel
          have HRE := Lib.hid hr
          have HO := Lib.hid ho
          have HW := Lib.hid hbel
          obtain ⟨_, x0, x1⟩ := HK5.out.1.on hbel
          clear hr ho hbel
          rcases Nat.lt_or_ge k q with hlt | hge
          · obtain ⟨⟨a, b⟩, hab⟩ := get_lt (L := L) (k := k) (by rw [← HQL.out]; exact hlt)
            obtain ⟨b0, off, rfl, hb0, f0, f1⟩ := (HA.out.on (bstep HK5.out.2 HW.out)).nat hab
            have hN2 := HG.out.ok a b (List.mem_of_getElem? hab)
            obtain ⟨x, hx, hx5, hx6⟩ := HIL.out.2 a hN2.1
            obtain ⟨y, hy, hy5, hy6⟩ := HIL.out.2 b hN2.2
            have hxy : x < y := hx6.arc hy6 (List.mem_of_getElem? hab)
            obtain ⟨g4, o4, rfl, hg4, f2⟩ := (K5.out.on HW.out) _ _ hx
            obtain ⟨g4', o4', h4, _, f3⟩ := (K5.out.on HW.out) _ _ hy
            cases h4
            have HAB := Lib.hid hab
            have HX := Lib.hid hx
            have HY := Lib.hid hy
            have l1 : (a : Int) < (N : Int) := by omega
            have l2 : (0 : Int) ≤ (a : Int) := by omega
            have l3 : (b : Int) < (N : Int) := by omega
            have l4 : (0 : Int) ≤ (b : Int) := by omega
            have l5 : (k : Int) < (q : Int) := by omega
            have l6 : (0 : Int) ≤ (k : Int) := by omega
            have c1 : decide ((y : Int) ≤ (x : Int)) = false := decide_eq_false (by omega)
            have c3 : decide (y ≤ x) = false := decide_eq_false (by omega)
            have hwr : IntKind.i64.wrap ((x : Int) + 1) = (x : Int) + 1 := wrap_id (by omega)
            go_upto_region 14 with fail
            obtain ⟨wq, hwq⟩ : ∃ W, wr.alloc (.cells #[.int .i64 (a : Int), .int .i64 (b : Int)] 42) = W := ⟨_, rfl⟩
            obtain ⟨g9, hg9⟩ : ∃ g, wr.heap.size = g := ⟨_, rfl⟩
            have hq1 : wq.cell? ⟨g9, 0, none⟩ = some (.int .i64 (a : Int)) := by rw [← hwq, ← hg9]; simp
            have hq2 : wq.cell? ⟨g9, 1, none⟩ = some (.int .i64 (b : Int)) := by rw [← hwq, ← hg9]; simp
            have HOQ : Hid (Own eB 4 w5.heap.size wq (.slice (some ⟨w5.heap.size, 0, none⟩) N N) o) := hwq ▸ HO.out.alloc _
            have HWQ : Hid (Below w5.heap.size w5 wq) := hwq ▸ HW.out.alloc HW.out.size _
            have hq3 : wq.cell? ⟨g4, o4 + a, none⟩ = some (.int .i64 (x : Int)) := by rw [← hwq]; exact ((below_alloc wr _).cell (p := ⟨g4, o4 + a, none⟩) hg4).trans f2
            have hq4 : wq.cell? ⟨g4, o4 + b, none⟩ = some (.int .i64 (y : Int)) := by rw [← hwq]; exact ((below_alloc wr _).cell (p := ⟨g4, o4 + b, none⟩) hg4).trans f3
            rw [hwq, hg9]
            clear hwq hg9 f0 f1 f2 f3 hb0 hab hx hy hx6 hy6 x0 x1
            go_quiet (fail)
            obtain ⟨wz, hwz⟩ : ∃ W, wq.drewN nq = W := ⟨_, rfl⟩
            have z1 : wz.cell? ⟨g9, 0, none⟩ = some (.int .i64 (a : Int)) := by rw [← hwz]; exact hq1
            have z2 : wz.cell? ⟨g9, 1, none⟩ = some (.int .i64 (b : Int)) := by rw [← hwz]; exact hq2
            have z3 : wz.cell? ⟨g4, o4 + a, none⟩ = some (.int .i64 (x : Int)) := by rw [← hwz]; exact hq3
            have z4 : wz.cell? ⟨g4, o4 + b, none⟩ = some (.int .i64 (y : Int)) := by rw [← hwz]; exact hq4
            have HOZ : Hid (Own eB 4 w5.heap.size wz (.slice (some ⟨w5.heap.size, 0, none⟩) N N) o) := hwz ▸ HOQ.out.drewN nq
            have HWZ : Hid (Below w5.heap.size w5 wz) := hwz ▸ below_drewN HWQ.out nq
            rw [hwz]
            clear HOQ HWQ hq1 hq2 hq3 hq4 hwz
            by_cases hxe : x + 1 = y
            · have c2 : ((x : Int) + 1 == (y : Int)) = true := by simp; omega
              have HLF : Hid (Lft N L l (k + 1) (o.set b true)) := HRE.out.yes HAB.out (by omega) HX.out (by rw [HY.out]; congr 1; omega)
              go_wp2_with fail
              go_quiet (fail)
              obtain ⟨wy, hwy⟩ : ∃ W, wz.drewN nq = W := ⟨_, rfl⟩
              have HZ2 : Hid (wy.cell? ⟨g9, 1, none⟩ = some (.int .i64 (b : Int))) := Lib.hid (by rw [← hwy]; exact z2)
              have HOY : Hid (Own eB 4 w5.heap.size wy (.slice (some ⟨w5.heap.size, 0, none⟩) N N) o) := hwy ▸ HOZ.out.drewN nq
              have HWY : Hid (Below w5.heap.size w5 wy) := hwy ▸ below_drewN HWZ.out nq
              rw [hwy]
              clear hwy HOZ HWZ z1 z2 z3 z4 c1 c2 hwr
              have z2 := HZ2.out
              have f3 := HOY.out.warm (by rw [HRE.out.1]) b
              have f4 := HOY.out.cell (get_lt (L := o) (k := b) (by rw [HRE.out.1]; omega)).choose_spec
              have HO2 := Lib.hid (HOY.out.set (by rw [HRE.out.1]) b true)
              have HW2 := Lib.hid (HWY.out.setCell (p := ⟨w5.heap.size, b, none⟩) (Nat.le_refl _) (.bool true))
              go_wp2_with fail
              go_roundw
              case rel => exact ⟨k + 1, _, by omega, by go_num, HLF.out, HO2.out, HW2.out⟩
              case measure => simp [intOf]; omega
            · have c2 : ((x : Int) + 1 == (y : Int)) = false := by simp; omega
              have HLF : Hid (Lft N L l (k + 1) o) := HRE.out.no HAB.out HX.out HY.out (by omega)
              go_wp2_with fail
              go_quiet (fail)
              obtain ⟨wy, hwy⟩ : ∃ W, wz.drewN nq = W := ⟨_, rfl⟩
              have HZ2 : Hid (wy.cell? ⟨g9, 1, none⟩ = some (.int .i64 (b : Int))) := Lib.hid (by rw [← hwy]; exact z2)
              have HOY : Hid (Own eB 4 w5.heap.size wy (.slice (some ⟨w5.heap.size, 0, none⟩) N N) o) := hwy ▸ HOZ.out.drewN nq
              have HWY : Hid (Below w5.heap.size w5 wy) := hwy ▸ below_drewN HWZ.out nq
              rw [hwy]
              clear hwy HOZ HWZ z1 z2 z3 z4 c1 c2 hwr
              go_wp2_with fail
              go_roundw
              case rel => exact ⟨k + 1, _, by omega, by go_num, HLF.out, HOY.out, HWY.out⟩
              case measure => simp [intOf]; omega
          · obtain rfl : q = k := by omega
            have HDN : Hid (∀ m, m < N → ∃ u : Nat, l[m]? = some (u : Int) ∧ o[m]? = some (decide (0 < u))) := Lib.hid fun m hm => (HQL.out ▸ HRE.out).done HG.out.ok HIL.out hm
            have HLN : Hid (o.length = N) := HRE.out.1
            go_wp2_with fail
            go_loopw [10] (fun i wz => ∃ (j : Nat), j ≤ N ∧ i = .int .i64 j ∧ Own eB 4 w5.heap.size wz (.slice (some ⟨w5.heap.size, 0, none⟩) N N) o ∧ Below w5.heap.size w5 wz) (fun i _ => N - (intOf i).toNat)
            case atStart => exact ⟨0, Nat.zero_le _, rfl, HO.out, HW.out⟩
            case round =>
              clear HO HW x0 x1
              obtain ⟨j, hj, rfl, ho, hbel⟩ := hrel
              have HO := Lib.hid ho
              have HW := Lib.hid hbel
              obtain ⟨_, x0, x1⟩ := HK5.out.1.on hbel
              clear ho hbel
              rcases Nat.lt_or_ge j N with hlt2 | hge2
              · obtain ⟨u, hu, hou⟩ := HDN.out j hlt2
                obtain ⟨g4, o4, rfl, hg4, f2⟩ := (K5.out.on HW.out) _ _ hu
                have f3 := HO.out.cell hou
                have l5 : (j : Int) < (N : Int) := by omega
                have l6 : (0 : Int) ≤ (j : Int) := by omega
                have c1 : decide ((u : Int) < 0) = false := decide_eq_false (by omega)
                clear hu hou
                rcases Nat.eq_zero_or_pos u with h0 | h0
                · subst h0
                  rw [show decide (0 < 0) = false from rfl] at f3
                  go_wp2_with fail
                  go_quiet (fail)
                  clear f2 f3 x0 x1
                  go_wp2_with fail
                  go_roundw
                  case rel => exact ⟨j + 1, by omega, by go_num, HO.out.drewN _, below_drewN HW.out _⟩
                  case measure => simp [intOf]; omega
                · rw [decide_eq_true h0] at f3
                  have c2 : decide ((0 : Int) < (u : Int)) = true := decide_eq_true (by omega)
                  go_wp2_with fail
                  go_quiet (fail)
                  clear f2 f3 x0 x1
                  go_wp2_with fail
                  go_roundw
                  case rel => exact ⟨j + 1, by omega, by go_num, HO.out.drewN _, below_drewN HW.out _⟩
                  case measure => simp [intOf]; omega
              · obtain rfl : N = j := by omega
                go_wp2_with fail
                refine (awake_true _).mono ?_
                rintro e w9 ⟨rfl, hb9⟩
                go_wp2_with fail
                go_ret
                exact ⟨rfl, bstep HK5.out.2 (bstep HW.out hb9)⟩
    · have hz' : (chkE n zs == 0) = false := beq_false_of_ne hz
      obtain ⟨E, hE⟩ : ∃ E, chkE n zs = E := ⟨_, rfl⟩
      rw [hE] at hz hz' ⊢
      clear hE
      obtain ⟨_, x0, x1⟩ := HK3.out.1
      go_wp2_with fail
      refine (awake_true w3).mono ?_
      rintro e w4 ⟨rfl, hb4⟩
      go_wp2_with fail
      go_ret
      exact ⟨rfl, bstep HK3.out.2 hb4⟩
end Go.Proofs.Ytlbknnafecdakaa.Graph
