/- Cycle of the reference. -/
import Derived.Test.YtlbknnafecdakaaGraphU
namespace Go.Proofs.Ytlbknnafecdakaa.Graph
open Go.ChangeShapes Go.WideShapes Go.RowKit Go.Lib
set_option linter.unusedVariables false
set_option maxRecDepth 100000

def CycP (n : Int) (zs : List Pr) (E : Int) (l : List Int) : Prop :=
  (chkE n zs ≠ 0 ∧ E = chkE n zs ∧ l = []) ∨
  ∃ (N : Nat) (L : Arcs), Gph n zs N L ∧ ((Acy L ∧ E = 7 ∧ l = []) ∨ ∃ m C, IsC L m C ∧ E = 0 ∧ l = toI C)
theorem CycP.one {n : Int} {zs : List Pr} {E F : Int} {o p : List Int} (h : CycP n zs E o) (k : CycP n zs F p) : E = F ∧ o = p := by
  rcases h with ⟨h1, rfl, rfl⟩ | ⟨N, L, hg, h⟩
  · rcases k with ⟨k1, rfl, rfl⟩ | ⟨M, K, kg, k⟩
    · exact ⟨rfl, rfl⟩
    · exact absurd kg.chk h1
  · rcases k with ⟨k1, rfl, rfl⟩ | ⟨M, K, kg, k⟩
    · exact absurd hg.chk k1
    · obtain ⟨rfl, rfl⟩ := hg.one kg
      rcases h with ⟨h1, rfl, rfl⟩ | ⟨m, C, h1, rfl, rfl⟩
      · rcases k with ⟨k1, rfl, rfl⟩ | ⟨m', C', k1, rfl, rfl⟩
        · exact ⟨rfl, rfl⟩
        · exact absurd k1.cy (h1 m')
      · rcases k with ⟨k1, rfl, rfl⟩ | ⟨m', C', k1, rfl, rfl⟩
        · exact absurd h1.cy (k1 m)
        · rw [h1.one k1]; exact ⟨rfl, rfl⟩
/-! ### The next node (pure) -/
/-- Among the first i arcs: the least node z behind x with a walk of q arcs to k. -/
def NxI (L : Arcs) (x k q i : Nat) (y : Int) : Prop :=
  (y = -1 ∧ ∀ (t z : Nat), t < i → L[t]? = some (x, z) → ¬ W L q z k) ∨
  ∃ z : Nat, y = (z : Int) ∧ (x, z) ∈ L ∧ W L q z k ∧ ∀ (t z' : Nat), t < i → L[t]? = some (x, z') → W L q z' k → z ≤ z'
theorem NxI.start {L : Arcs} {x k q : Nat} : NxI L x k q 0 (-1) := Or.inl ⟨rfl, fun t z h => by omega⟩
theorem NxI.skip {L : Arcs} {x k q i a b : Nat} {y : Int} (h : NxI L x k q i y) (hi : L[i]? = some (a, b)) (hn : a ≠ x ∨ ¬ W L q b k) : NxI L x k q (i + 1) y := by
  rcases h with ⟨h1, h2⟩ | ⟨z, h1, h2, h3, h4⟩
  · refine Or.inl ⟨h1, fun t z' ht hz hw => ?_⟩
    rcases Nat.lt_or_eq_of_le (Nat.le_of_lt_succ ht) with h5 | rfl
    · exact h2 t z' h5 hz hw
    · rw [hi] at hz; cases hz
      rcases hn with h6 | h6
      · exact h6 rfl
      · exact h6 hw
  · refine Or.inr ⟨z, h1, h2, h3, fun t z' ht hz hw => ?_⟩
    rcases Nat.lt_or_eq_of_le (Nat.le_of_lt_succ ht) with h5 | rfl
    · exact h4 t z' h5 hz hw
    · rw [hi] at hz; cases hz
      rcases hn with h6 | h6
      · exact absurd rfl h6
      · exact absurd hw h6
theorem NxI.first {L : Arcs} {x k q i b : Nat} (h : NxI L x k q i (-1)) (hi : L[i]? = some (x, b)) (hw : W L q b k) : NxI L x k q (i + 1) (b : Int) := by
  refine Or.inr ⟨b, rfl, List.mem_of_getElem? hi, hw, fun t z' ht hz hw' => ?_⟩
  rcases h with ⟨h1, h2⟩ | ⟨z, h1, _⟩
  · rcases Nat.lt_or_eq_of_le (Nat.le_of_lt_succ ht) with h5 | rfl
    · exact absurd hw' (h2 t z' h5 hz)
    · rw [hi] at hz; cases hz; exact Nat.le_refl _
  · omega
theorem NxI.less {L : Arcs} {x k q i b z : Nat} (h : NxI L x k q i (z : Int)) (hi : L[i]? = some (x, b)) (hw : W L q b k) (hb : b < z) : NxI L x k q (i + 1) (b : Int) := by
  refine Or.inr ⟨b, rfl, List.mem_of_getElem? hi, hw, fun t z' ht hz hw' => ?_⟩
  rcases h with ⟨h1, h2⟩ | ⟨z2, h1, _, _, h4⟩
  · omega
  · rcases Nat.lt_or_eq_of_le (Nat.le_of_lt_succ ht) with h5 | rfl
    · have := h4 t z' h5 hz hw'; omega
    · rw [hi] at hz; cases hz; exact Nat.le_refl _
theorem NxI.more {L : Arcs} {x k q i b z : Nat} (h : NxI L x k q i (z : Int)) (hi : L[i]? = some (x, b)) (hb : z ≤ b) : NxI L x k q (i + 1) (z : Int) := by
  rcases h with ⟨h1, h2⟩ | ⟨z2, h1, h2, h3, h4⟩
  · omega
  · obtain rfl : z = z2 := by omega
    refine Or.inr ⟨z, rfl, h2, h3, fun t z' ht hz hw' => ?_⟩
    rcases Nat.lt_or_eq_of_le (Nat.le_of_lt_succ ht) with h5 | rfl
    · exact h4 t z' h5 hz hw'
    · rw [hi] at hz; cases hz; exact hb
theorem NxI.done {L : Arcs} {x k q : Nat} {y : Int} (h : NxI L x k q L.length y) (hw : W L (q + 1) x k) : ∃ z : Nat, y = (z : Int) ∧ (x, z) ∈ L ∧ W L q z k ∧ ∀ z', z' < z → (x, z') ∈ L → ¬ W L q z' k := by
  obtain ⟨b, hb, hw⟩ := hw
  obtain ⟨t, ht⟩ := List.mem_iff_getElem?.mp hb
  rcases h with ⟨h1, h2⟩ | ⟨z, h1, h2, h3, h4⟩
  · exact absurd hw (h2 t b (lt_of_get ht) ht)
  · refine ⟨z, h1, h2, h3, fun z' hz hm hw' => ?_⟩
    obtain ⟨t', ht'⟩ := List.mem_iff_getElem?.mp hm
    have := h4 t' z' (lt_of_get ht') ht' hw'
    omega
theorem own_lit1 {t : TypeId} (W : World) (x : Int) : Own eI t W.heap.size (W.alloc (.cells #[.int .i64 x] t)) (.slice (some ⟨W.heap.size, 0, none⟩) 1 1) [x] :=
  World.ownsRow_lit (base := W.heap.size) (e := t) (size := 1) W #[.int .i64 x] 1 (Nat.le_refl _) (by unfold maxLen; omega) rfl

set_option maxHeartbeats 3200000 in
theorem ref_Cycle (n : Int) (zs : List Pr) (A : Option Addr) (c : Nat) (w : World) (ha : Ars w A zs) (hm : zs.length ≤ 9223372036854775807) :
    Calls Try.prog 20 #[.agg #[.int .i64 n, .slice A zs.length c]] w (Res eI w (CycP n zs)) := by
  have HA := Lib.hid ha
  clear ha
  go_enter Try.func20, Try.ntmps20
  go_upto_region 1 with fail
  obtain ⟨w1, hw1⟩ : ∃ W, w.alloc (.cells #[.int .i64 n, .slice A zs.length c] 24) = W := ⟨_, rfl⟩
  have HX1 : Hid (Bx w1 w.heap.size n A zs.length c) := hw1 ▸ Bx.new _ _ _ _ _ _
  have HB1 : Hid (Below w.heap.size w w1) := hw1 ▸ below_alloc _ _
  rw [hw1]
  clear hw1
  obtain ⟨_, x0, x1⟩ := HX1.out
  go_wp2_with fail
  refine (ref_Check n zs A c w1 (HA.out.on HB1.out) hm).mono ?_
  rintro e w2 ⟨rfl, hb2⟩
  have HB2 := Lib.hid (bstep HB1.out hb2)
  have HX2 := Lib.hid (HX1.out.on hb2)
  clear hb2 x0 x1
  by_cases hz : chkE n zs = 0
  · obtain ⟨N, L, hg⟩ := gph_of hz
    have HG := Lib.hid hg
    rw [hz]
    obtain rfl := hg.n
    obtain rfl := hg.zs
    have hlen : (asI L).length = L.length := asI_len L
    rw [hlen] at HX2 ⊢
    have hN := hg.le
    have hl := hg.ln
    clear hz hg hlen
    go_wp2_with fail
    go_loopw [5] (fun i wr => ∃ k : Nat, k ≤ N ∧ i = .int .i64 k ∧ (∀ m, m < k → ¬ Cy L m) ∧ Below w2.heap.size w2 wr) (fun i _ => N - (intOf i).toNat)
    case atStart => exact ⟨0, Nat.zero_le _, rfl, fun m h => by omega, Below.refl _ _⟩
    case round =>
      obtain ⟨k, hk, rfl, hv, hbel⟩ := hrel
      have HV := Lib.hid hv
      have HW := Lib.hid hbel
      obtain ⟨_, x0, x1⟩ := HX2.out.on hbel
      clear hv hbel
      rcases Nat.lt_or_ge k N with hlt | hge
      · have i1 : (k : Int) < (N : Int) := by omega
        have HKN := Lib.hid hlt
        go_wp2_with fail
        refine (ref_far N L k A c wr HG.out.le HG.out.ln HG.out.ok HKN.out (HA.out.on (bstep HB2.out HW.out))).mono ?_
        rintro e w3 ⟨A3, d, rfl, hd, hc, hb3⟩
        have HD := Lib.hid hd
        have HC3 := Lib.hid hc
        have HW3 : Hid (Below w2.heap.size w2 w3) := bstep HW.out hb3
        clear hd hc hb3 x0 x1
        obtain ⟨_, x0, x1⟩ := HX2.out.on HW3.out
        go_wp2_with fail
        refine (ref_round N L k d A A3 c N w3 HG.out.le HG.out.ln HG.out.ok HKN.out (HA.out.on (bstep HB2.out HW3.out)) HD.out HC3.out).mono ?_
        rintro e w4 ⟨r, rfl, hrn, hb4⟩
        have HC4 := Lib.hid (HC3.out.on hb4)
        have HW4 : Hid (Below w2.heap.size w2 w4) := bstep HW3.out hb4
        clear hb4 x0 x1
        rcases hrn with ⟨rfl, hnc⟩ | ⟨hr0, hrw, hrm⟩
        · have HV2 : Hid (∀ m, m < k + 1 → ¬ Cy L m) := fun m hm => by
            rcases Nat.lt_or_eq_of_le (Nat.le_of_lt_succ hm) with h1 | rfl
            · exact HV.out m h1
            · exact hnc
          clear hnc
          go_wp2_with fail
          go_roundw
          case rel => exact ⟨k + 1, by omega, by go_num, HV2.out, HW4.out⟩
          case measure => simp [intOf]; omega
        · have s1 : ((r : Int) == 0) = false := beq_false_of_ne (by omega)
          have HR0 := Lib.hid hr0
          have HRW := Lib.hid hrw
          have HRM := Lib.hid hrm
          have hr5 : r ≤ 64 := by
            obtain ⟨d', hd1, hd2, hd3, _⟩ := Cy.short HG.out.ok (⟨r, hr0, hrw⟩ : Cy L k)
            rcases Nat.lt_or_ge d' r with h1 | h1
            · exact absurd hd3 (hrm d' hd1 h1)
            · omega
          have HR5 := Lib.hid hr5
          clear hrw hrm hr0
          have HO1 := Lib.hid (own_lit1 (t := 3) w4 (k : Int))
          go_upto_region 11 with fail
          obtain ⟨w5, hw5⟩ : ∃ W, w4.alloc (.cells #[.int .i64 (k : Int)] 3) = W := ⟨_, rfl⟩
          have HO5 : Hid (Own eI 3 w4.heap.size w5 (.slice (some ⟨w4.heap.size, 0, none⟩) 1 1) [(k : Int)]) := hw5 ▸ HO1.out
          have HB5 : Hid (Below w4.heap.size w4 w5) := hw5 ▸ below_alloc _ _
          rw [hw5]
          clear hw5 HO1
          go_loopw [7, 8] (fun lf v wr => ∃ (C : List Nat) (Ao : Option Addr) (mo co q : Nat), lf = .int .i64 (q : Int) ∧ v = .slice Ao mo co ∧ mo = C.length ∧ q + mo = r + 1 ∧ 0 < mo ∧ mo ≤ r ∧ Beg L k r C ∧ Own eI 3 w4.heap.size wr (.slice Ao mo co) (toI C) ∧ Below w4.heap.size w4 wr) (fun lf _ _ => (intOf lf).toNat)
          case atStart => exact ⟨[k], _, 1, 1, r, rfl, rfl, rfl, rfl, by omega, HR0.out, Beg.one HR0.out, HO5.out, HB5.out⟩
          case round =>
            clear HO5 HB5
            obtain ⟨C, Ao, mo, co, q, rfl, rfl, hmo, hq, hmo0, hmor, hbeg, ho, hbel⟩ := hrel
            have HBG := Lib.hid hbeg
            have HO := Lib.hid ho
            have HW5 := Lib.hid hbel
            have HMO := Lib.hid hmo
            have HQ := Lib.hid hq
            have HMR := Lib.hid hmor
            clear hbeg ho hbel hmo
            by_cases hq1 : 1 < q
            · obtain ⟨p, hp⟩ : ∃ p, p = q - 1 := ⟨_, rfl⟩
              have hsub : (q : Int) - 1 = (p : Int) := by omega
              have hp5 : p ≤ 64 := by omega
              have HP := Lib.hid hp
              obtain ⟨u, hu⟩ : ∃ u, u = mo - 1 := ⟨_, rfl⟩
              have HU := Lib.hid hu
              have hsub2 : (mo : Int) - 1 = (u : Int) := by omega
              have hu5 : u ≤ 64 := by omega
              have hum : (u : Int) < (mo : Int) := by omega
              have hu0 : (0 : Int) ≤ (u : Int) := by omega
              obtain ⟨x, hx⟩ := get_lt (L := C) (k := u) (by rw [← HMO.out]; omega)
              have hxt : (toI C)[u]? = some (x : Int) := by unfold toI; rw [List.getElem?_map, hx]; rfl
              have hxu : C[C.length - 1]? = some x := by rw [← HMO.out, ← hu]; exact hx
              have HXU := Lib.hid hxu
              have hxw := HBG.out.to _ hxu
              have HDS : Hid (∀ b, (x, b) ∈ L → (Dst L b k p ↔ W L p b k)) := fun b hb => dst_step HRM.out hxw hb (by have := HMO.out; omega)
              have hxb := HBG.out.back HRW.out _ hxu
              have HWX : Hid (W L (p + 1) x k) := (by rw [show r - (C.length - 1) = p + 1 by rw [← HMO.out]; omega] at hxb; exact hxb : W L (p + 1) x k)
              have HXT := Lib.hid hxt
              obtain ⟨go, cg, e1, hg1, hg2, _⟩ := HO.out.blk (by rw [toI_len, ← HMO.out]; omega)
              have hao : Ao = some ⟨go, 0, none⟩ := by cases e1; rfl
              subst hao
              clear hx hxt hxu hxw hxb hp hu e1
              go_wp2_with fail
              go_loopw [9, 10] (fun y i wr => ∃ (j : Nat) (z : Int), j ≤ L.length ∧ i = .int .i64 j ∧ y = .int .i64 z ∧ NxI L x k p j z ∧ Own eI 3 w4.heap.size wr (.slice (some ⟨go, 0, none⟩) mo co) (toI C) ∧ Below w4.heap.size w4 wr) (fun _ i _ => L.length - (intOf i).toNat)
              case atStart => exact ⟨0, -1, Nat.zero_le _, rfl, rfl, NxI.start, HO.out, HW5.out⟩
              case round =>
                clear HO HW5
                obtain ⟨j, z, hj, rfl, rfl, hnx, ho, hbel⟩ := hrel
                have HNX := Lib.hid hnx
                have HO := Lib.hid ho
                have HW5 := Lib.hid hbel
                obtain ⟨_, x0, x1⟩ := HX2.out.on (bstep HW4.out hbel)
                clear hnx ho hbel
                rcases Nat.lt_or_ge j L.length with hlt2 | hge2
                · obtain ⟨⟨a, b⟩, hab⟩ := get_lt hlt2
                  obtain ⟨b0, off, rfl, hb0, f0, f1⟩ := (HA.out.on (bstep HB2.out (bstep HW4.out HW5.out))).nat hab
                  have hN2 := HG.out.ok a b (List.mem_of_getElem? hab)
                  have l1 : (a : Int) < (N : Int) := by omega
                  have l2 : (0 : Int) ≤ (a : Int) := by omega
                  have l3 : (b : Int) < (N : Int) := by omega
                  have l4 : (0 : Int) ≤ (b : Int) := by omega
                  have l5 : (j : Int) < (L.length : Int) := by omega
                  have l6 : (0 : Int) ≤ (j : Int) := by omega
                  go_upto_region 18 with fail
                  obtain ⟨wq, hwq⟩ : ∃ W, wr.alloc (.cells #[.int .i64 (a : Int), .int .i64 (b : Int)] 42) = W := ⟨_, rfl⟩
                  obtain ⟨g9, hg9⟩ : ∃ g, wr.heap.size = g := ⟨_, rfl⟩
                  have hq1' : wq.cell? ⟨g9, 0, none⟩ = some (.int .i64 (a : Int)) := by rw [← hwq, ← hg9]; simp
                  have hq2' : wq.cell? ⟨g9, 1, none⟩ = some (.int .i64 (b : Int)) := by rw [← hwq, ← hg9]; simp
                  have HOQ : Hid (Own eI 3 w4.heap.size wq (.slice (some ⟨go, 0, none⟩) mo co) (toI C)) := hwq ▸ HO.out.alloc _
                  have HWQ : Hid (Below w4.heap.size w4 wq) := hwq ▸ HW5.out.alloc HW5.out.size _
                  rw [hwq, hg9]
                  clear hwq hg9 f0 f1 hb0 x0 x1
                  have f5 : wq.cell? ⟨go, u, none⟩ = some (.int .i64 (x : Int)) := HOQ.out.cell HXT.out
                  by_cases c1 : a = x
                  · subst c1
                    have s1 : ((a : Int) == (a : Int)) = true := by simp
                    rcases HD.out.2 b hN2.2 with ⟨hdb, hnr⟩ | ⟨v, hdb, hdv⟩
                    · obtain ⟨b1, off1, rfl, hb1, t1⟩ := (HC4.out.on HWQ.out) b _ hdb
                      have t1 : wq.cell? ⟨b1, off1 + b, none⟩ = some (.int .i64 (-1)) := t1
                      have s2 : ((-1 : Int) == (p : Int)) = false := beq_false_of_ne (by omega)
                      have HNX2 := Lib.hid (HNX.out.skip hab (Or.inr fun hw => hnr ⟨p, hw⟩))
                      clear hab hdb hnr hb1
                      go_quiet (fail)
                      go_wp2_with fail
                      go_roundw
                      case rel => exact ⟨j + 1, z, by omega, by go_num, rfl, HNX2.out, HOQ.out.drewN _, below_drewN HWQ.out _⟩
                      case measure => simp [intOf]; omega
                    · obtain ⟨b1, off1, rfl, hb1, t1⟩ := (HC4.out.on HWQ.out) b _ hdb
                      have t1 : wq.cell? ⟨b1, off1 + b, none⟩ = some (.int .i64 (v : Int)) := t1
                      by_cases c2 : v = p
                      · subst c2
                        have s2 : ((v : Int) == (v : Int)) = true := by simp
                        have HWV := Lib.hid hdv.1
                        have HAB := Lib.hid hab
                        have hzz : z = -1 ∨ ∃ y : Nat, z = (y : Int) := by
                          rcases HNX.out with ⟨h, _⟩ | ⟨y, h, _⟩
                          · exact Or.inl h
                          · exact Or.inr ⟨y, h⟩
                        clear hab hdb hdv hb1
                        rcases hzz with rfl | ⟨y, rfl⟩
                        · have HNX2 := Lib.hid (HNX.out.first HAB.out HWV.out)
                          go_quiet (fail)
                          go_wp2_with fail
                          go_roundw
                          case rel => exact ⟨j + 1, (b : Int), by omega, by go_num, rfl, HNX2.out, HOQ.out.drewN _, below_drewN HWQ.out _⟩
                          case measure => simp [intOf]; omega
                        · have s3 : decide ((y : Int) < 0) = false := decide_eq_false (by omega)
                          by_cases c3 : b < y
                          · have s4 : (b : Int) < (y : Int) := by omega
                            have HNX2 := Lib.hid (HNX.out.less HAB.out HWV.out c3)
                            go_quiet (fail)
                            go_wp2_with fail
                            go_roundw
                            case rel => exact ⟨j + 1, (b : Int), by omega, by go_num, rfl, HNX2.out, HOQ.out.drewN _, below_drewN HWQ.out _⟩
                            case measure => simp [intOf]; omega
                          · have s4 : decide ((b : Int) < (y : Int)) = false := decide_eq_false (by omega)
                            have s5 : decide (b < y) = false := decide_eq_false c3
                            have HNX2 := Lib.hid (HNX.out.more HAB.out (by omega))
                            go_quiet (fail)
                            go_wp2_with fail
                            go_roundw
                            case rel => exact ⟨j + 1, (y : Int), by omega, by go_num, rfl, HNX2.out, HOQ.out.drewN _, below_drewN HWQ.out _⟩
                            case measure => simp [intOf]; omega
                      · have s2 : ((v : Int) == (p : Int)) = false := beq_false_of_ne (by omega)
                        have HNX2 := Lib.hid (HNX.out.skip hab (Or.inr fun hw => c2 (hdv.one ((HDS.out b (List.mem_of_getElem? hab)).mpr hw))))
                        clear hab hdb hdv hb1 c2
                        go_quiet (fail)
                        go_wp2_with fail
                        go_roundw
                        case rel => exact ⟨j + 1, z, by omega, by go_num, rfl, HNX2.out, HOQ.out.drewN _, below_drewN HWQ.out _⟩
                        case measure => simp [intOf]; omega
                  · have s1 : ((a : Int) == (x : Int)) = false := beq_false_of_ne (by omega)
                    have HNX2 := Lib.hid (HNX.out.skip hab (Or.inl c1))
                    clear hab c1
                    go_quiet (fail)
                    go_wp2_with fail
                    go_roundw
                    case rel => exact ⟨j + 1, z, by omega, by go_num, rfl, HNX2.out, HOQ.out.drewN _, below_drewN HWQ.out _⟩
                    case measure => simp [intOf]; omega
                · obtain rfl : L.length = j := by omega
                  obtain ⟨y, rfl, hy1, hy2, hy3⟩ := HNX.out.done HWX.out
                  have hrp : r - C.length = p := by have := HMO.out; have := HP.out; omega
                  have HBG2 : Hid (Beg L k r (C ++ [y])) := HBG.out.snoc (by have := HMO.out; have := HP.out; omega) HXU.out hy1 (by rw [hrp]; exact hy2) (by rw [hrp]; exact hy3)
                  have HTL : Hid ((toI C).length + 1 ≤ 1000000) := (by rw [toI_len, ← HMO.out]; have := HMR.out; have := HR5.out; omega : (toI C).length + 1 ≤ 1000000)
                  clear hy1 hy2 hy3 hrp
                  go_wp2_with (at_builtin; refine append_int rfl _ _ rfl w4.heap.size (.slice (some ⟨go, 0, none⟩) mo co) (toI C) rfl (HO.out.alloc _) wr.heap.size 1 (y : Int) rfl (by simp) HTL.out (Nat.le_trans (HW5.out.size) (below_alloc _ _).size) ?_; intro v' w6 hown' hg' hat; refine Hid.out ?_)
                  refine Lib.hid ?_
                  have HB7 : Hid (Below w4.heap.size w4 w6) := (HW5.out.alloc (HW5.out.size) _).trans ((HO.out.alloc _).below hg' (Nat.le_trans (HW5.out.size) (below_alloc _ _).size))
                  rw [← toI_snoc] at hown'
                  obtain ⟨A7, c7, e7, _⟩ := hown'.inS
                  have hl7 : (toI (C ++ [y])).length = mo + 1 := by rw [toI_len, List.length_append, HMO.out]; rfl
                  rw [hl7] at e7
                  subst e7
                  have HOI7 := Lib.hid hown'
                  have HL7 : Hid (mo + 1 = (C ++ [y]).length) := (by rw [List.length_append, HMO.out]; rfl : mo + 1 = (C ++ [y]).length)
                  clear hown' hg' hat hl7
                  go_wp2_with fail
                  go_roundw
                  case rel => exact ⟨C ++ [y], A7, mo + 1, c7, p, rfl, rfl, HL7.out, by have := HP.out; have := HQ.out; omega, by omega, by have := HP.out; have := HQ.out; omega, HBG2.out, HOI7.out, HB7.out⟩
                  case measure => simp [intOf]; have := HP.out; omega
            · have hmr : mo = r := by omega
              have HIC : Hid (IsC L k C) := HBG.out.whole (by rw [← HMO.out]; exact hmr) HV.out HRW.out HRM.out
              have HPP : Hid (CycP (N : Int) (asI L) 0 (toI C)) := Or.inr ⟨N, L, HG.out, Or.inr ⟨k, C, HIC.out, rfl, rfl⟩⟩
              have HBZ := Lib.hid (bstep HB2.out (bstep HW4.out HW5.out))
              have HT9 : Hid ((toI C).length = mo) := (by rw [toI_len, HMO.out] : (toI C).length = mo)
              obtain ⟨A9, c9, e9, _, _, h9⟩ := HO.out.inS
              have H9 := Lib.hid h9
              rw [HT9.out] at e9
              cases e9
              have d1 : decide ((1 : Int) < (q : Int)) = false := decide_eq_false (by omega)
              clear h9 hmr
              go_wp2_with fail
              go_ret2
              exact ⟨Ao, co, toI C, 0, by rw [HT9.out]; rfl, by rw [HT9.out]; exact Nat.le_trans HMR.out HR5.out, HPP.out, H9.out, HBZ.out⟩
      · obtain rfl : N = k := by omega
        have HP : Hid (CycP (N : Int) (asI L) 7 []) := Or.inr ⟨N, L, HG.out, Or.inl ⟨fun m hm => HV.out m (hm.lt HG.out.ok) hm, rfl, rfl⟩⟩
        have HBZ : Hid (Below w.heap.size w wr) := bstep HB2.out HW.out
        go_wp2_with fail
        go_ret2
        exact Res.no HP.out HBZ.out
  · have HP : Hid (CycP n zs (chkE n zs) []) := Or.inl ⟨hz, rfl, rfl⟩
    have h1 : (chkE n zs == 0) = false := beq_false_of_ne hz
    have h2 : (chkE n zs != 0) = true := by simp [hz]
    obtain ⟨q, hq⟩ : ∃ q, chkE n zs = q := ⟨_, rfl⟩
    rw [hq] at h1 h2 HP ⊢
    clear hz hq
    go_wp2_with fail
    go_ret2
    exact Res.no HP.out HB2.out
#print axioms ref_Cycle
end Go.Proofs.Ytlbknnafecdakaa.Graph
