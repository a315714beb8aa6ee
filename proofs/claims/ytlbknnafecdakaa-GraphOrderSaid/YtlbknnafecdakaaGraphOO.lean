/- Order and cycle exclude each other. -/
import Derived.Test.YtlbknnafecdakaaGraphNN
namespace Go.Proofs.Ytlbknnafecdakaa.Graph
open Go.ChangeShapes Go.WideShapes Go.RowKit Go.Lib
set_option linter.unusedVariables false
set_option maxRecDepth 100000

set_option maxHeartbeats 6400000 in
theorem walk_GraphOrder (n : Int) (zs : List Pr) (A : Option Addr) (c : Nat) (w : World) (ha : Ars w A zs) (hm : zs.length ≤ 9223372036854775807) :
    Calls Try.prog 8 #[.agg #[.int .i64 n, .slice A zs.length c]] w fun e w' => e = .returned (.bool true) ∧ Below w.heap.size w w' := by
  have HA := Lib.hid ha
  clear ha
  go_enter Try.func8, Try.ntmps8
  go_upto_region 1 with fail
  obtain ⟨w1, hw1⟩ : ∃ W, w.alloc (.cells #[.int .i64 n, .slice A zs.length c] 24) = W := ⟨_, rfl⟩
  have HX1 : Hid (Bx w1 w.heap.size n A zs.length c) := hw1 ▸ Bx.new _ _ _ _ _ _
  have HB1 : Hid (Below w.heap.size w w1) := hw1 ▸ below_alloc _ _
  rw [hw1]
  clear hw1
  obtain ⟨_, x0, x1⟩ := HX1.out
  go_wp2_with fail
  refine (great_at n zs A c w1 hm).mono ?_
  rintro e w2 ⟨rfl, hb2⟩
  have HK2 := Lib.hid (bx_off ⟨HX1.out, HB1.out⟩ hb2)
  clear hb2 x0 x1 HX1 HB1
  cases hgr : decide (600 < (zs.length : Int)) with
  | true =>
    go_wp2_with fail
    refine (awake_true w2).mono ?_
    rintro e w3 ⟨rfl, hb3⟩
    go_wp2_with fail
    go_ret
    exact ⟨rfl, bstep HK2.out.2 hb3⟩
  | false =>
    obtain ⟨_, x0, x1⟩ := HK2.out.1
    go_wp2_with fail
    refine (graph_Order n zs A c w2 (HA.out.on HK2.out.2) hm).mono ?_
    rintro e w3 ⟨A3, c3, l, E, rfl, _, hP, k3, b3⟩
    have HK3 := Lib.hid (bx_off HK2.out b3)
    have K3 := Lib.hid k3
    have HP := Lib.hid hP
    clear k3 b3 x0 x1 hP HK2
    obtain ⟨_, x0, x1⟩ := HK3.out.1
    go_wp2_with fail
    refine (graph_Cycle n zs A c w3 (HA.out.on HK3.out.2) hm).mono ?_
    rintro e w4 ⟨A4, c4, C0, F, rfl, _, hP, k4, b4⟩
    have HK4 := Lib.hid (bx_off HK3.out b4)
    have K4 := Lib.hid k4
    have KO4 := Lib.hid (K3.out.on b4)
    have HP' := Lib.hid hP
    clear k4 b4 x0 x1 hP HK3 K3
    obtain ⟨_, x0, x1⟩ := HK4.out.1
    go_wp2_with fail
    refine (graph_Check n zs A c w4 (HA.out.on HK4.out.2) hm).mono ?_
    rintro e w5 ⟨rfl, b5⟩
    have HK5 := Lib.hid (bx_off HK4.out b5)
    have K5 := Lib.hid (K4.out.on b5)
    have KO5 := Lib.hid (KO4.out.on b5)
    clear b5 x0 x1 HK4 K4 KO4
    by_cases hz : chkE n zs = 0
    · rw [hz]
      obtain ⟨N, L, hg⟩ := gph_of hz
      have key : (∃ R, ordO N L = some R ∧ E = 0 ∧ l = toI R ∧ F = 7 ∧ C0 = []) ∨ (E = 11 ∧ l = [] ∧ ∃ m C, IsC L m C ∧ F = 0 ∧ C0 = toI C) := by
        rcases HP.out with ⟨h, _⟩ | ⟨N1, L1, g1, h1⟩
        · exact absurd hz h
        obtain ⟨rfl, rfl⟩ := hg.one g1
        rcases HP'.out with ⟨h, _⟩ | ⟨N2, L2, g2, h2⟩
        · exact absurd hz h
        obtain ⟨rfl, rfl⟩ := hg.one g2
        rcases h1 with ⟨h1, h3, h4⟩ | ⟨R, h1, h3, h4⟩
        · rcases h2 with ⟨h2, _⟩ | ⟨m, C, h2, h5, h6⟩
          · obtain ⟨k, hk⟩ := (ord_none hg.ok).mp h1
            exact absurd hk (h2 k)
          · exact Or.inr ⟨h3, h4, m, C, h2, h5, h6⟩
        · rcases h2 with ⟨_, h5, h6⟩ | ⟨m, C, h2, h5, h6⟩
          · exact Or.inl ⟨R, h1, h3, h4, h5, h6⟩
          · exact absurd h2.cy (ord_acy hg.ok h1 m)
      obtain rfl := hg.n
      obtain rfl := hg.zs
      have HG := Lib.hid hg
      obtain ⟨q, hq0⟩ : ∃ q, (asI L).length = q := ⟨_, rfl⟩
      have HQ := Lib.hid hq0
      have HQL : Hid (q = L.length) := Lib.hid (by rw [← hq0, asI_len])
      rw [hq0]
      rw [hq0] at HK5 hgr
      have hN := hg.le
      have hq5 : q ≤ 512 := by rw [HQL.out]; exact hg.ln
      clear hz hg hq0 HP HP'
      rcases key with ⟨R, hR, rfl, rfl, rfl, rfl⟩ | ⟨rfl, rfl, m, C, hC, rfl, rfl⟩
      · have hRl := (ord_ok hR).2
        have HT := Lib.hid (ord_ok hR).1
        have HRL := Lib.hid hRl
        have hl : (toI R).length = N := by rw [toI_len]; exact hRl
        rw [hl]
        clear hl hRl hR K5
        obtain ⟨_, x0, x1⟩ := HK5.out.1
        have hmk := fun W => make_ints N (by omega) W
        have HO1 := Lib.hid (own_made eI 3 w5 N 0 (by omega))
        go_upto_region 12 with fail
        obtain ⟨wm, hwm⟩ : ∃ W, w5.alloc (.cells (madeCells #[.int .i64 0] N) 3) = W := ⟨_, rfl⟩
        have HBM : Hid (Below w5.heap.size w5 wm) := hwm ▸ below_alloc _ _
        have HOM : Hid (Own eI 3 w5.heap.size wm (.slice (some ⟨w5.heap.size, 0, none⟩) N N) (List.replicate N 0)) := hwm ▸ HO1.out
        rw [hwm]
        clear hwm HO1 hmk x0 x1
        go_wp2_with fail
        go_loopw [9] (fun i wr => ∃ (k : Nat) (ws : List Int), k ≤ N ∧ i = .int .i64 k ∧ Plc N R k ws ∧ Own eI 3 w5.heap.size wr (.slice (some ⟨w5.heap.size, 0, none⟩) N N) ws ∧ Below w5.heap.size w5 wr) (fun i _ => N - (intOf i).toNat)
        case atStart => exact ⟨0, _, Nat.zero_le _, rfl, Plc.start N R, HOM.out, HBM.out⟩
        case round =>
          clear HOM HBM
          obtain ⟨k, ws, hk, rfl, hr, ho, hbel⟩ := hrel
          have HRE := Lib.hid hr
          have HO := Lib.hid ho
          have HW := Lib.hid hbel
          obtain ⟨_, x0, x1⟩ := HK5.out.1.on hbel
          clear hr ho hbel
          rcases Nat.lt_or_ge k N with hlt | hge
          · obtain ⟨x, hx⟩ := get_lt (L := R) (k := k) (by rw [HRL.out]; exact hlt)
            have hxN : x < N := HT.out.lt x (List.mem_of_getElem? hx)
            obtain ⟨g3, o3, rfl, hg3, f2⟩ := (KO5.out.on HW.out) _ _ (toI_get hx)
            have f3 := HO.out.cell (HRE.out.zero HT.out.nd hx hxN)
            have HX := Lib.hid hx
            have HRE2 := Lib.hid (HRE.out.set HT.out.nd hx hxN)
            have l1 : (x : Int) < (N : Int) := by omega
            have l2 : (0 : Int) ≤ (x : Int) := by omega
            have l5 : (k : Int) < (N : Int) := by omega
            have l6 : (0 : Int) ≤ (k : Int) := by omega
            have c1 : decide ((x : Int) < 0) = false := decide_eq_false (by omega)
            have c2 : decide ((N : Int) ≤ (x : Int)) = false := decide_eq_false (by omega)
            have c3 : decide (N ≤ x) = false := decide_eq_false (by omega)
            clear hx
            go_wp2_with fail
            go_quiet (fail)
            obtain ⟨wz, hwz⟩ : ∃ W, wr.drewN nq = W := ⟨_, rfl⟩
            have z2 : wz.cell? ⟨g3, o3 + k, none⟩ = some (.int .i64 (x : Int)) := by rw [← hwz]; exact f2
            have HOZ : Hid (Own eI 3 w5.heap.size wz (.slice (some ⟨w5.heap.size, 0, none⟩) N N) ws) := hwz ▸ HO.out.drewN nq
            have HWZ : Hid (Below w5.heap.size w5 wz) := hwz ▸ below_drewN HW.out nq
            rw [hwz]
            clear hwz HO HW f2 f3 x0 x1
            have z3 := HOZ.out.cell (HRE.out.zero HT.out.nd HX.out hxN)
            have z4 := HOZ.out.warm (by rw [HRE.out.len]) x
            have hwr : IntKind.i64.wrap ((k : Int) + 1) = (k : Int) + 1 := wrap_id (by omega)
            have HO2 := Lib.hid (HOZ.out.set (by rw [HRE.out.len]) x ((k : Int) + 1))
            have HW2 := Lib.hid (HWZ.out.setCell (p := ⟨w5.heap.size, x, none⟩) (Nat.le_refl _) (.int .i64 ((k : Int) + 1)))
            go_wp2_with fail
            go_roundw
            case rel => exact ⟨k + 1, _, by omega, by go_num, HRE2.out, HO2.out, HW2.out⟩
            case measure => simp [intOf]; omega
          · obtain rfl : N = k := by omega
            go_wp2_with fail
            go_loopw [10] (fun i wy => ∃ (j : Nat), j ≤ q ∧ i = .int .i64 j ∧ Own eI 3 w5.heap.size wy (.slice (some ⟨w5.heap.size, 0, none⟩) N N) ws ∧ Below w5.heap.size w5 wy) (fun i _ => q - (intOf i).toNat)
            case atStart => exact ⟨0, Nat.zero_le _, rfl, HO.out, HW.out⟩
            case round =>
              clear HO HW x0 x1
              obtain ⟨j, hj, rfl, ho, hbel⟩ := hrel
              have HO := Lib.hid ho
              have HW := Lib.hid hbel
              obtain ⟨_, x0, x1⟩ := HK5.out.1.on hbel
              clear ho hbel
              rcases Nat.lt_or_ge j q with hlt2 | hge2
              · obtain ⟨⟨a, b⟩, hab⟩ := get_lt (L := L) (k := j) (by rw [← HQL.out]; exact hlt2)
                obtain ⟨b0, off, rfl, hb0, f0, f1⟩ := (HA.out.on (bstep HK5.out.2 HW.out)).nat hab
                have hN2 := HG.out.ok a b (List.mem_of_getElem? hab)
                obtain ⟨u, v, hu, hv, huv⟩ := HT.out.arc HG.out.ok HRL.out (List.mem_of_getElem? hab)
                have hu2 := lt_of_get hu
                have hv2 := lt_of_get hv
                rw [HRL.out] at hu2 hv2
                have HU := Lib.hid (HRE.out.at_ u a hu2 hu)
                have HV := Lib.hid (HRE.out.at_ v b hv2 hv)
                have l1 : (a : Int) < (N : Int) := by omega
                have l2 : (0 : Int) ≤ (a : Int) := by omega
                have l3 : (b : Int) < (N : Int) := by omega
                have l4 : (0 : Int) ≤ (b : Int) := by omega
                have l5 : (j : Int) < (q : Int) := by omega
                have l6 : (0 : Int) ≤ (j : Int) := by omega
                have c1 : decide ((a : Int) < 0) = false := decide_eq_false (by omega)
                have c2 : decide ((b : Int) < 0) = false := decide_eq_false (by omega)
                have c3 : decide ((N : Int) ≤ (a : Int)) = false := decide_eq_false (by omega)
                have c4 : decide ((N : Int) ≤ (b : Int)) = false := decide_eq_false (by omega)
                obtain ⟨U, hU⟩ : ∃ U, (u : Int) + 1 = U := ⟨_, rfl⟩
                obtain ⟨V, hV⟩ : ∃ V, (v : Int) + 1 = V := ⟨_, rfl⟩
                have c5 : decide (V ≤ U) = false := decide_eq_false (by omega)
                rw [hU] at HU
                rw [hV] at HV
                clear hab hu hv hU hV huv hu2 hv2
                go_upto_region 22 with fail
                obtain ⟨wq, hwq⟩ : ∃ W, wr.alloc (.cells #[.int .i64 (a : Int), .int .i64 (b : Int)] 42) = W := ⟨_, rfl⟩
                obtain ⟨g9, hg9⟩ : ∃ g, wr.heap.size = g := ⟨_, rfl⟩
                have hq1 : wq.cell? ⟨g9, 0, none⟩ = some (.int .i64 (a : Int)) := by rw [← hwq, ← hg9]; simp
                have hq2 : wq.cell? ⟨g9, 1, none⟩ = some (.int .i64 (b : Int)) := by rw [← hwq, ← hg9]; simp
                have HOQ : Hid (Own eI 3 w5.heap.size wq (.slice (some ⟨w5.heap.size, 0, none⟩) N N) ws) := hwq ▸ HO.out.alloc _
                have HWQ : Hid (Below w5.heap.size w5 wq) := hwq ▸ HW.out.alloc HW.out.size _
                rw [hwq, hg9]
                clear hwq hg9 f0 f1 hb0 x0 x1 HO HW
                obtain ⟨_, x0, x1⟩ := HK5.out.1.on HWQ.out
                have f2 := HOQ.out.cell HU.out
                have f3 := HOQ.out.cell HV.out
                go_quiet (fail)
                have HO2 := Lib.hid (HOQ.out.drewN nq)
                have HW2 := Lib.hid (below_drewN HWQ.out nq)
                clear hq1 hq2 x0 x1 f2 f3
                go_wp2_with fail
                go_roundw
                case rel => exact ⟨j + 1, by omega, by go_num, HO2.out, HW2.out⟩
                case measure => simp [intOf]; omega
              · obtain rfl : q = j := by omega
                go_wp2_with fail
                refine (awake_true _).mono ?_
                rintro e w9 ⟨rfl, hb9⟩
                go_wp2_with fail
                go_ret
                exact ⟨rfl, bstep HK5.out.2 (bstep HW.out hb9)⟩
      · have HC := Lib.hid hC
        obtain ⟨p, hp⟩ : ∃ p, C.length = p := ⟨_, rfl⟩
        have hl : (toI C).length = p := by rw [toI_len]; exact hp
        have hp1 : 0 < p := by rw [← hp]; exact hC.pos
        have hp2 : p ≤ N := by rw [← hp]; exact hC.le HG.out.ok
        have HPL := Lib.hid hp
        have i1 : ((p : Int) == 0) = false := beq_false_of_ne (by omega)
        have i2 : decide ((N : Int) < (p : Int)) = false := decide_eq_false (by omega)
        have i3 : ¬ N < p := by omega
        rw [hl]
        clear hl hp hC KO5
        obtain ⟨_, x0, x1⟩ := HK5.out.1
        go_wp2_with fail
        go_loopw [12] (fun i wr => ∃ (k : Nat), k ≤ p ∧ i = .int .i64 k ∧ Below w5.heap.size w5 wr) (fun i _ => p - (intOf i).toNat)
        case atStart => exact ⟨0, Nat.zero_le _, rfl, Below.refl _ _⟩
        case round =>
          clear x0 x1
          obtain ⟨k, hk, rfl, hbel⟩ := hrel
          have HW := Lib.hid hbel
          clear hbel
          rcases Nat.lt_or_ge k p with hlt | hge
          · obtain ⟨x, hx⟩ := get_lt (L := C) (k := k) (by rw [HPL.out]; exact hlt)
            obtain ⟨y, hy, hxy⟩ := HC.out.round hx
            rw [HPL.out] at hy
            obtain ⟨j, hj⟩ : ∃ j, (k + 1) % p = j := ⟨_, rfl⟩
            rw [hj] at hy
            have hjp : j < p := by rw [← hj]; exact Nat.mod_lt _ (by omega)
            obtain ⟨g4, o4, rfl, hg4, y1⟩ := (K5.out.on HW.out) _ _ (toI_get hx)
            obtain ⟨g4', o4', h4, _, y2⟩ := (K5.out.on HW.out) _ _ (toI_get hy)
            cases h4
            obtain ⟨g4', o4', h4, _, y3⟩ := (K5.out.on HW.out) _ _ (toI_get HC.out.hd)
            cases h4
            have hge := HC.out.ge hx
            have hk5 := HK5.out.1.on HW.out
            have HX := Lib.hid hx
            have HAR := Lib.hid (law_arc (N : Int) (asI L) A q c (x : Int) (y : Int) wr.drew ((HA.out.on (bstep HK5.out.2 HW.out)).on (Below.refl _ _).drew) HQ.out (by omega) (asI_mem hxy))
            have HS : Hid (∀ W, Below wr.heap.size wr W → ((W.cell? ⟨w.heap.size, 0, none⟩ = some (.int .i64 (N : Int)) ∧ W.cell? ⟨w.heap.size, 1, none⟩ = some (.slice A q c)) ∧ (W.cell? ⟨g4, o4 + k, none⟩ = some (.int .i64 (x : Int)) ∧ W.cell? ⟨g4, o4 + j, none⟩ = some (.int .i64 (y : Int)) ∧ W.cell? ⟨g4, o4 + 0, none⟩ = some (.int .i64 (m : Int))))) :=
              Lib.hid fun W hW => ⟨⟨(hk5.on hW).2.1, (hk5.on hW).2.2⟩, ⟨(hW.cell (p := ⟨g4, o4 + k, none⟩) hg4).trans y1, (hW.cell (p := ⟨g4, o4 + j, none⟩) hg4).trans y2, (hW.cell (p := ⟨g4, o4 + 0, none⟩) hg4).trans y3⟩⟩
            rw [Nat.add_zero] at HS
            have em : ((k : Int) + 1).tmod (p : Int) = (j : Int) := by rw [← hj]; exact tmod_nat (k + 1) p
            have hwr : IntKind.i64.wrap ((k : Int) + 1) = (k : Int) + 1 := wrap_id (by omega)
            have hwj : IntKind.i64.wrap (j : Int) = (j : Int) := wrap_id (by omega)
            have n0 : ¬ (p : Int) = 0 := by omega
            have n1 : ((p : Int) == 0) = false := beq_false_of_ne n0
            have em2 : ((k : Int) + 1) % (p : Int) = (j : Int) := by rw [← hj]; rfl
            have em3 : IntKind.i64.wrap (((k : Int) + 1).tmod (p : Int)) = (j : Int) := by rw [em, hwj]
            have em4 : (0 : Int) ≤ (k : Int) + 1 := by omega
            have n2 : ¬ p = 0 := by omega
            have n3 : (p == 0) = false := beq_false_of_ne n2
            have l1 : (k : Int) < (p : Int) := by omega
            have l2 : (0 : Int) ≤ (k : Int) := by omega
            have l3 : (j : Int) < (p : Int) := by omega
            have l4 : (0 : Int) ≤ (j : Int) := by omega
            have l5 : (0 : Int) < (p : Int) := by omega
            have c1 : decide ((x : Int) < (m : Int)) = false := decide_eq_false (by omega)
            have c2 : decide (x < m) = false := decide_eq_false (by omega)
            clear hx hy hj y1 y2 y3 hxy hk5
            go_wp2_with fail
            go_region_held3 (fun W' => ((W'.cell? ⟨w.heap.size, 0, none⟩ = some (.int .i64 (N : Int)) ∧ W'.cell? ⟨w.heap.size, 1, none⟩ = some (.slice A q c)) ∧ (W'.cell? ⟨g4, o4 + k, none⟩ = some (.int .i64 (x : Int)) ∧ W'.cell? ⟨g4, o4 + j, none⟩ = some (.int .i64 (y : Int)) ∧ W'.cell? ⟨g4, o4, none⟩ = some (.int .i64 (m : Int)))))
              (first | exact HS.out _ (Below.refl _ _).drew | exact HS.out _ (bstep (Below.refl _ _).drew b6))
              (first | (go_at_call 29; (with_reducible refine HAR.out.mono ?_); rintro e w6 ⟨rfl, b6⟩))
            have HW6 := Lib.hid (bstep HW.out (bstep (Below.refl _ _).drew b6))
            clear em hwr hwj n0 n1 b6 em2 em3 em4 n2 n3
            go_wp2_with fail
            go_loopw [13] (fun i wy => ∃ (t : Nat), t ≤ k ∧ i = .int .i64 t ∧ Below w5.heap.size w5 wy) (fun i _ => k - (intOf i).toNat)
            case atStart => exact ⟨0, Nat.zero_le _, rfl, HW6.out⟩
            case round =>
              clear HW HW6
              obtain ⟨t, ht, rfl, hbel⟩ := hrel
              have HW := Lib.hid hbel
              clear hbel
              rcases Nat.lt_or_ge t k with hlt2 | hge2
              · obtain ⟨z, hz⟩ := get_lt (L := C) (k := t) (by rw [HPL.out]; omega)
                have hne : z ≠ x := fun e => by
                  have := HC.out.apart hz (e ▸ HX.out)
                  omega
                obtain ⟨g4', o4', h4, _, y1⟩ := (K5.out.on HW.out) _ _ (toI_get hz)
                cases h4
                obtain ⟨g4', o4', h4, _, y2⟩ := (K5.out.on HW.out) _ _ (toI_get HX.out)
                cases h4
                have r1 : (t : Int) < (p : Int) := by omega
                have r2 : (0 : Int) ≤ (t : Int) := by omega
                have r3 : (t : Int) < (k : Int) := by omega
                have c5 : ((z : Int) == (x : Int)) = false := beq_false_of_ne (by omega)
                clear hz
                go_wp2_with fail
                go_quiet (fail)
                have HW2 := Lib.hid (below_drewN HW.out nq)
                clear y1 y2
                go_wp2_with fail
                go_roundw
                case rel => exact ⟨t + 1, by omega, by go_num, HW2.out⟩
                case measure => simp [intOf]; omega
              · obtain rfl : k = t := by omega
                go_wp2_with fail
                go_roundw
                case rel => exact ⟨k + 1, by omega, by go_num, HW.out⟩
                case measure => simp [intOf]; omega
          · obtain rfl : p = k := by omega
            go_wp2_with fail
            refine (awake_true _).mono ?_
            rintro e w9 ⟨rfl, hb9⟩
            go_wp2_with fail
            go_ret
            exact ⟨rfl, bstep HK5.out.2 (bstep HW.out hb9)⟩
    · obtain ⟨rfl, rfl⟩ : E = chkE n zs ∧ l = [] := by
        rcases HP.out with ⟨_, h1, h2⟩ | ⟨N, L, g, _⟩
        · exact ⟨h1, h2⟩
        · exact absurd g.chk hz
      obtain ⟨rfl, rfl⟩ : F = chkE n zs ∧ C0 = [] := by
        rcases HP'.out with ⟨_, h1, h2⟩ | ⟨N, L, g, _⟩
        · exact ⟨h1, h2⟩
        · exact absurd g.chk hz
      have hz' : (chkE n zs == 0) = false := beq_false_of_ne hz
      clear HP HP'
      obtain ⟨E, hE⟩ : ∃ E, chkE n zs = E := ⟨_, rfl⟩
      rw [hE] at hz hz' ⊢
      clear hE
      obtain ⟨_, x0, x1⟩ := HK5.out.1
      go_wp2_with fail
      refine (awake_true w5).mono ?_
      rintro e w6 ⟨rfl, hb6⟩
      go_wp2_with fail
      go_ret
      exact ⟨rfl, bstep HK5.out.2 hb6⟩
end Go.Proofs.Ytlbknnafecdakaa.Graph
