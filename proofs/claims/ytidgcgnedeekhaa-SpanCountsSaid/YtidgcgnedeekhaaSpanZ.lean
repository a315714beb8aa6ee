/- The walk of SpanCounts. -/
import Derived.Test.YtidgcgnedeekhaaSpanY
import Derived.Deep.RegionHeld3
namespace Go.Proofs.Ytidgcgnedeekhaa.Span
open Go.ChangeShapes Go.WideShapes Go.RowKit Go.Lib Go.Proofs
set_option linter.unusedVariables false
set_option maxRecDepth 100000

/-- A block of integers. -/
def IntsB (w : World) (g : Nat) (zs : List Int) : Prop := ∃ t, w.heap[g]? = some (.cells (zs.map (Value.int .i64)).toArray t (0, 0))
theorem IntsB.cell {w : World} {g : Nat} {zs : List Int} (h : IntsB w g zs) {k : Nat} {z : Int} (hz : zs[k]? = some z) : w.cell? ⟨g, k, none⟩ = some (.int .i64 z) ∧ w.frozen? ⟨g, k, none⟩ = false := by
  obtain ⟨t, hg⟩ := h
  exact ⟨by rw [cell_of_row w g k _ t (0, 0) hg]; simp [hz], frozen_of hg k⟩
theorem IntsB.lt {w : World} {g : Nat} {zs : List Int} (h : IntsB w g zs) : g < w.heap.size := by
  obtain ⟨t, hg⟩ := h; exact (Array.getElem?_eq_some_iff.mp hg).1
theorem IntsB.keep {w w' : World} {g : Nat} {zs : List Int} (h : IntsB w g zs) (hk : w'.heap[g]? = w.heap[g]?) : IntsB w' g zs := by
  obtain ⟨t, hg⟩ := h; exact ⟨t, hk.trans hg⟩
theorem IntsB.on {w w' : World} {g : Nat} {zs : List Int} (h : IntsB w g zs) (hb : Below w.heap.size w w') : IntsB w' g zs := h.keep (hb.block g h.lt)
theorem IntsB.store {w : World} {g : Nat} {zs : List Int} (h : IntsB w g zs) (k : Nat) (v : Int) : IntsB (w.setCell ⟨g, k, none⟩ (.int .i64 v)) g (zs.set k v) := by
  obtain ⟨t, hg⟩ := h
  refine ⟨t, ?_⟩
  simp only [World.setCell, Array.getElem?_modify, hg, if_true, Option.map_some]
  congr 2
  rw [List.map_set]
  simp
/-- The five totals, k of them known. -/
def five (t0 t1 t2 t3 t4 : Int) : Nat → List Int
  | 0 => [0, 0, 0, 0, 0]
  | 1 => [t0, 0, 0, 0, 0]
  | 2 => [t0, t1, 0, 0, 0]
  | 3 => [t0, t1, t2, 0, 0]
  | 4 => [t0, t1, t2, t3, 0]
  | _ => [t0, t1, t2, t3, t4]
theorem make_five (W : World) : (Instr.makeSlice 38 (.int .i64 5) (.int .i64 5)).run Try.prog W = .ok (.slice (some ⟨W.heap.size, 0, none⟩) 5 5) (W.alloc (.cells #[.int .i64 0, .int .i64 0, .int .i64 0, .int .i64 0, .int .i64 0] 3)) := by
  obtain ⟨i, hi, hz, hs, hb⟩ := info_parts info_int
  have h := run_make (P := Try.prog) (w := W) 38 3 i _ Try.underlying38 hi hz .i64 .i64 5 5 (by decide) (by decide) (by rw [hb]; decide) (by decide)
  rw [hs] at h
  have e : madeCells (Value.int .i64 0).cells (Int.toNat 5 * 1) = #[.int .i64 0, .int .i64 0, .int .i64 0, .int .i64 0, .int .i64 0] := by kernel_rfl
  rw [e] at h
  exact h
/-- The block of the five lists. -/
def Lsts (w : World) (g : Nat) (v0 v1 v2 v3 v4 : Value) : Prop := ∃ t, w.heap[g]? = some (.cells #[v0, v1, v2, v3, v4] t (0, 0))
theorem Lsts.cells {w : World} {g : Nat} {v0 v1 v2 v3 v4 : Value} (h : Lsts w g v0 v1 v2 v3 v4) :
    w.cell? ⟨g, 0, none⟩ = some v0 ∧ w.cell? ⟨g, 1, none⟩ = some v1 ∧ w.cell? ⟨g, 2, none⟩ = some v2 ∧ w.cell? ⟨g, 3, none⟩ = some v3 ∧ w.cell? ⟨g, 4, none⟩ = some v4 := by
  obtain ⟨t, hg⟩ := h
  refine ⟨?_, ?_, ?_, ?_, ?_⟩ <;> rw [cell_of_row w g _ _ t (0, 0) hg] <;> rfl
theorem Lsts.lt {w : World} {g : Nat} {v0 v1 v2 v3 v4 : Value} (h : Lsts w g v0 v1 v2 v3 v4) : g < w.heap.size := by
  obtain ⟨t, hg⟩ := h; exact (Array.getElem?_eq_some_iff.mp hg).1
theorem Lsts.keep {w w' : World} {g : Nat} {v0 v1 v2 v3 v4 : Value} (h : Lsts w g v0 v1 v2 v3 v4) (hk : w'.heap[g]? = w.heap[g]?) : Lsts w' g v0 v1 v2 v3 v4 := by
  obtain ⟨t, hg⟩ := h; exact ⟨t, hk.trans hg⟩
theorem Lsts.on {w w' : World} {g : Nat} {v0 v1 v2 v3 v4 : Value} (h : Lsts w g v0 v1 v2 v3 v4) (hb : Below w.heap.size w w') : Lsts w' g v0 v1 v2 v3 v4 := h.keep (hb.block g h.lt)
theorem Lsts.far {w : World} {g : Nat} {v0 v1 v2 v3 v4 : Value} (h : Lsts w g v0 v1 v2 v3 v4) {p : Addr} (hp : p.block ≠ g) (u : Value) : Lsts (w.setCell p u) g v0 v1 v2 v3 v4 := h.keep (Below.heap_setCell w p u g fun e => hp e.symm)

set_option maxHeartbeats 6400000 in
theorem walk_SpanCounts (w : World) (a0 : Value) (a : List Sp) (h0 : InL w a0 a) (a1 : Value) (b : List Sp) (h1 : InL w a1 b) :
    Calls Try.prog 9 #[a0, a1] w fun e w' => e = .returned (.bool true) ∧ Below w.heap.size w w' := by
  obtain ⟨A, c, rfl, hma, -, hin⟩ := h0.open_
  have Ha := Lib.hid hin
  clear h0 hin
  obtain ⟨B, d, rfl, hmb, -, hin⟩ := h1.open_
  have Hb := Lib.hid hin
  clear h1 hin
  cases hga : decide (300 < a.length) with
  | true =>
    have B0 := Lib.hid (Below.refl w.heap.size w)
    go_enter Try.func9, Try.ntmps9
    go_wp2_with fail
    refine (is_great a A c _ hma hga).mono ?_
    rintro e w' ⟨rfl, rfl⟩
    go_wp2_with fail
    refine (awake _).mono ?_
    rintro e wa0 ⟨rfl, hb⟩
    have C1 := Lib.hid hb
    have B1 := Lib.hid (bstep B0.out C1.out)
    replace Ha := Lib.hid (Ha.out.on C1.out)
    replace Hb := Lib.hid (Hb.out.on C1.out)
    clear hb
    go_wp2_with fail
    go_ret
    exact ⟨rfl, B1.out⟩
  | false =>
    cases hgb : decide (300 < b.length) with
    | true =>
      have B0 := Lib.hid (Below.refl w.heap.size w)
      go_enter Try.func9, Try.ntmps9
      go_wp2_with fail
      refine (is_great a A c _ hma hga).mono ?_
      rintro e w' ⟨rfl, rfl⟩
      go_wp2_with fail
      refine (is_great b B d _ hmb hgb).mono ?_
      rintro e w' ⟨rfl, rfl⟩
      go_wp2_with fail
      refine (awake _).mono ?_
      rintro e wa0 ⟨rfl, hb⟩
      have C1 := Lib.hid hb
      have B1 := Lib.hid (bstep B0.out C1.out)
      replace Ha := Lib.hid (Ha.out.on C1.out)
      replace Hb := Lib.hid (Hb.out.on C1.out)
      clear hb
      go_wp2_with fail
      go_ret
      exact ⟨rfl, B1.out⟩
    | false =>
      have B0 := Lib.hid (Below.refl w.heap.size w)
      go_enter Try.func9, Try.ntmps9
      go_wp2_with fail
      refine (is_great a A c _ hma hga).mono ?_
      rintro e w' ⟨rfl, rfl⟩
      go_wp2_with fail
      refine (is_great b B d _ hmb hgb).mono ?_
      rintro e w' ⟨rfl, rfl⟩
      go_wp2_with fail
      refine (span_Union a b A B c d _ Ha.out.sps Hb.out.sps hma hmb).mono ?_
      intro e w1 h
      obtain ⟨M0, E0, V0, c0, rfl, hmM0, hin, ho, hb⟩ := h.outs
      have O0 := Lib.hid ho
      have HM0 := Lib.hid hin
      clear h hin ho
      have C1 := Lib.hid hb
      have B1 := Lib.hid (bstep B0.out C1.out)
      replace Ha := Lib.hid (Ha.out.on C1.out)
      replace Hb := Lib.hid (Hb.out.on C1.out)
      clear hb
      go_wp2_with fail
      refine (span_Common a b A B c d _ Ha.out.sps Hb.out.sps hma hmb).mono ?_
      intro e w2 h
      obtain ⟨M1, E1, V1, c1, rfl, hmM1, hin, ho, hb⟩ := h.outs
      have O1 := Lib.hid ho
      have HM1 := Lib.hid hin
      clear h hin ho
      have C2 := Lib.hid hb
      have B2 := Lib.hid (bstep B1.out C2.out)
      replace Ha := Lib.hid (Ha.out.on C2.out)
      replace Hb := Lib.hid (Hb.out.on C2.out)
      replace HM0 := Lib.hid (HM0.out.on C2.out)
      clear hb
      go_wp2_with fail
      refine (span_Minus a b A B c d _ Ha.out.sps Hb.out.sps hma hmb).mono ?_
      intro e w3 h
      obtain ⟨M2, E2, V2, c2, rfl, hmM2, hin, ho, hb⟩ := h.outs
      have O2 := Lib.hid ho
      have HM2 := Lib.hid hin
      clear h hin ho
      have C3 := Lib.hid hb
      have B3 := Lib.hid (bstep B2.out C3.out)
      replace Ha := Lib.hid (Ha.out.on C3.out)
      replace Hb := Lib.hid (Hb.out.on C3.out)
      replace HM0 := Lib.hid (HM0.out.on C3.out)
      replace HM1 := Lib.hid (HM1.out.on C3.out)
      clear hb
      by_cases he0 : E0 = 0
      · subst he0
        by_cases he1 : E1 = 0
        · subst he1
          by_cases he2 : E2 = 0
          · subst he2
            obtain ⟨za, zb, l0, nf0⟩ := O0.out.ok rfl
            obtain ⟨-, -, l1, nf1⟩ := O1.out.ok rfl
            obtain ⟨-, -, l2, nf2⟩ := O2.out.ok rfl
            have HZ0 := Lib.hid za
            have HZ1 := Lib.hid zb
            have HZ2 := Lib.hid (set_chk za zb nf0 l0 orF_sub)
            have HZ3 := Lib.hid (set_chk za zb nf1 l1 andF_sub)
            have HZ4 := Lib.hid (set_chk za zb nf2 l2 notF_sub)
            obtain ⟨sum1, sum2⟩ := card_sums nf0 nf1 nf2
            obtain ⟨t0, ht0⟩ : ∃ t, t = card a := ⟨_, rfl⟩
            obtain ⟨t1, ht1⟩ : ∃ t, t = card b := ⟨_, rfl⟩
            obtain ⟨t2, ht2⟩ : ∃ t, t = card M0 := ⟨_, rfl⟩
            obtain ⟨t3, ht3⟩ : ∃ t, t = card M1 := ⟨_, rfl⟩
            obtain ⟨t4, ht4⟩ : ∃ t, t = card M2 := ⟨_, rfl⟩
            rw [← ht0, ← ht1, ← ht2, ← ht3] at sum1
            rw [← ht0, ← ht3, ← ht4] at sum2
            have S1 := Lib.hid sum1
            have S2 := Lib.hid sum2
            have HC0 := Lib.hid ht0
            have HC1 := Lib.hid ht1
            have HC2 := Lib.hid ht2
            have HC3 := Lib.hid ht3
            have HC4 := Lib.hid ht4
            clear za zb nf0 nf1 nf2 sum1 sum2 ht0 ht1 ht2 ht3 ht4
            have HI0 := Lib.hid (show IntsB ((w3.alloc (.cells #[.int .i64 0, .int .i64 0, .int .i64 0, .int .i64 0, .int .i64 0] 3)).alloc (.cells #[.slice A a.length c, .slice B b.length d, .slice V0 M0.length c0, .slice V1 M1.length c1, .slice V2 M2.length c2] 22)) w3.heap.size (five t0 t1 t2 t3 t4 0) from (show IntsB (w3.alloc (.cells #[.int .i64 0, .int .i64 0, .int .i64 0, .int .i64 0, .int .i64 0] 3)) w3.heap.size _ from ⟨3, heap_alloc_new w3 (.cells #[.int .i64 0, .int .i64 0, .int .i64 0, .int .i64 0, .int .i64 0] 3)⟩ : IntsB (w3.alloc (.cells #[.int .i64 0, .int .i64 0, .int .i64 0, .int .i64 0, .int .i64 0] 3)) w3.heap.size [0, 0, 0, 0, 0]).on (below_alloc _ _))
            have HL0 := Lib.hid (show Lsts ((w3.alloc (.cells #[.int .i64 0, .int .i64 0, .int .i64 0, .int .i64 0, .int .i64 0] 3)).alloc (.cells #[.slice A a.length c, .slice B b.length d, .slice V0 M0.length c0, .slice V1 M1.length c1, .slice V2 M2.length c2] 22)) (w3.heap.size + 1) (.slice A a.length c) (.slice B b.length d) (.slice V0 M0.length c0) (.slice V1 M1.length c1) (.slice V2 M2.length c2) from ⟨22, by have h := heap_alloc_new (w3.alloc (.cells #[.int .i64 0, .int .i64 0, .int .i64 0, .int .i64 0, .int .i64 0] 3)) (.cells #[.slice A a.length c, .slice B b.length d, .slice V0 M0.length c0, .slice V1 M1.length c1, .slice V2 M2.length c2] 22); rwa [show (w3.alloc (.cells #[.int .i64 0, .int .i64 0, .int .i64 0, .int .i64 0, .int .i64 0] 3)).heap.size = w3.heap.size + 1 by simp] at h⟩)
            have HB0 := Lib.hid (bstep (below_alloc w3 (.cells #[.int .i64 0, .int .i64 0, .int .i64 0, .int .i64 0, .int .i64 0] 3)) (below_alloc (w3.alloc (.cells #[.int .i64 0, .int .i64 0, .int .i64 0, .int .i64 0, .int .i64 0] 3)) (.cells #[.slice A a.length c, .slice B b.length d, .slice V0 M0.length c0, .slice V1 M1.length c1, .slice V2 M2.length c2] 22)))
            have hmk := make_five
            go_wp2_with fail
            clear hmk
            go_loopw [13] (fun i wr => ∃ k : Nat, k ≤ 5 ∧ i = .int .i64 k ∧ (0 < k → 0 ≤ t0 ∧ t0 ≤ 4398046511104) ∧ (1 < k → 0 ≤ t1 ∧ t1 ≤ 4398046511104) ∧ (2 < k → 0 ≤ t2 ∧ t2 ≤ 4398046511104) ∧ (3 < k → 0 ≤ t3 ∧ t3 ≤ 4398046511104) ∧ (4 < k → 0 ≤ t4 ∧ t4 ≤ 4398046511104) ∧ IntsB wr w3.heap.size (five t0 t1 t2 t3 t4 k) ∧ Lsts wr (w3.heap.size + 1) (.slice A a.length c) (.slice B b.length d) (.slice V0 M0.length c0) (.slice V1 M1.length c1) (.slice V2 M2.length c2) ∧ Below w3.heap.size w3 wr) (fun i _ => 5 - (intOf i).toNat)
            case atStart => exact ⟨0, by omega, rfl, fun h => absurd h (by omega), fun h => absurd h (by omega), fun h => absurd h (by omega), fun h => absurd h (by omega), fun h => absurd h (by omega), HI0.out, HL0.out, HB0.out⟩
            case round =>
              obtain ⟨k, hk, rfl, g0, g1, g2, g3, g4, hint, hlst, hbel⟩ := hrel
              have G0 := Lib.hid g0
              have G1 := Lib.hid g1
              have G2 := Lib.hid g2
              have G3 := Lib.hid g3
              have G4 := Lib.hid g4
              have HI := Lib.hid hint
              have HL := Lib.hid hlst
              have HW := Lib.hid hbel
              have hlt := hint.lt
              have hlt2 := hlst.lt
              clear g0 g1 g2 g3 g4 hint hlst hbel
              obtain rfl | rfl | rfl | rfl | rfl | rfl : k = 0 ∨ k = 1 ∨ k = 2 ∨ k = 3 ∨ k = 4 ∨ k = 5 := by omega
              · obtain ⟨q0, q1, q2, q3, q4⟩ := HL.out.cells
                obtain ⟨n0, f0⟩ := HI.out.cell (k := 0) rfl
                go_wp2_with fail
                refine (total_card a A c _ (Ha.out.on HW.out).sps hma HZ0.out HC0.out).mono ?_
                rintro e w4 ⟨⟨rfl, b1, b2⟩, hb⟩
                have HI4 := Lib.hid (HI.out.on hb)
                have HL4 := Lib.hid (HL.out.on hb)
                have HW4 := Lib.hid (bstep HW.out hb)
                have BD : Hid (0 ≤ t0 ∧ t0 ≤ 4398046511104) := ⟨b1, b2⟩
                have hlt4 := HI4.out.lt
                clear hb n0 f0 b1 b2
                obtain ⟨n0, f0⟩ := HI4.out.cell (k := 0) rfl
                go_wp2_with fail
                go_roundw
                case rel => exact ⟨1, by omega, by go_num, fun _ => BD.out, fun h => absurd h (by omega), fun h => absurd h (by omega), fun h => absurd h (by omega), fun h => absurd h (by omega), HI4.out.store 0 t0, HL4.out.far (by simp) _, HW4.out.setCell (p := ⟨w3.heap.size, 0, none⟩) (Nat.le_refl _) _⟩
                case measure => simp [intOf]
              · obtain ⟨q0, q1, q2, q3, q4⟩ := HL.out.cells
                obtain ⟨n0, f0⟩ := HI.out.cell (k := 1) rfl
                go_wp2_with fail
                refine (total_card b B d _ (Hb.out.on HW.out).sps hmb HZ1.out HC1.out).mono ?_
                rintro e w4 ⟨⟨rfl, b1, b2⟩, hb⟩
                have HI4 := Lib.hid (HI.out.on hb)
                have HL4 := Lib.hid (HL.out.on hb)
                have HW4 := Lib.hid (bstep HW.out hb)
                have BD : Hid (0 ≤ t1 ∧ t1 ≤ 4398046511104) := ⟨b1, b2⟩
                have hlt4 := HI4.out.lt
                clear hb n0 f0 b1 b2
                obtain ⟨n0, f0⟩ := HI4.out.cell (k := 1) rfl
                go_wp2_with fail
                go_roundw
                case rel => exact ⟨2, by omega, by go_num, fun _ => G0.out (by omega), fun _ => BD.out, fun h => absurd h (by omega), fun h => absurd h (by omega), fun h => absurd h (by omega), HI4.out.store 1 t1, HL4.out.far (by simp) _, HW4.out.setCell (p := ⟨w3.heap.size, 1, none⟩) (Nat.le_refl _) _⟩
                case measure => simp [intOf]
              · obtain ⟨q0, q1, q2, q3, q4⟩ := HL.out.cells
                obtain ⟨n0, f0⟩ := HI.out.cell (k := 2) rfl
                go_wp2_with fail
                refine (total_card M0 V0 c0 _ (HM0.out.on HW.out).sps hmM0 HZ2.out HC2.out).mono ?_
                rintro e w4 ⟨⟨rfl, b1, b2⟩, hb⟩
                have HI4 := Lib.hid (HI.out.on hb)
                have HL4 := Lib.hid (HL.out.on hb)
                have HW4 := Lib.hid (bstep HW.out hb)
                have BD : Hid (0 ≤ t2 ∧ t2 ≤ 4398046511104) := ⟨b1, b2⟩
                have hlt4 := HI4.out.lt
                clear hb n0 f0 b1 b2
                obtain ⟨n0, f0⟩ := HI4.out.cell (k := 2) rfl
                go_wp2_with fail
                go_roundw
                case rel => exact ⟨3, by omega, by go_num, fun _ => G0.out (by omega), fun _ => G1.out (by omega), fun _ => BD.out, fun h => absurd h (by omega), fun h => absurd h (by omega), HI4.out.store 2 t2, HL4.out.far (by simp) _, HW4.out.setCell (p := ⟨w3.heap.size, 2, none⟩) (Nat.le_refl _) _⟩
                case measure => simp [intOf]
              · obtain ⟨q0, q1, q2, q3, q4⟩ := HL.out.cells
                obtain ⟨n0, f0⟩ := HI.out.cell (k := 3) rfl
                go_wp2_with fail
                refine (total_card M1 V1 c1 _ (HM1.out.on HW.out).sps hmM1 HZ3.out HC3.out).mono ?_
                rintro e w4 ⟨⟨rfl, b1, b2⟩, hb⟩
                have HI4 := Lib.hid (HI.out.on hb)
                have HL4 := Lib.hid (HL.out.on hb)
                have HW4 := Lib.hid (bstep HW.out hb)
                have BD : Hid (0 ≤ t3 ∧ t3 ≤ 4398046511104) := ⟨b1, b2⟩
                have hlt4 := HI4.out.lt
                clear hb n0 f0 b1 b2
                obtain ⟨n0, f0⟩ := HI4.out.cell (k := 3) rfl
                go_wp2_with fail
                go_roundw
                case rel => exact ⟨4, by omega, by go_num, fun _ => G0.out (by omega), fun _ => G1.out (by omega), fun _ => G2.out (by omega), fun _ => BD.out, fun h => absurd h (by omega), HI4.out.store 3 t3, HL4.out.far (by simp) _, HW4.out.setCell (p := ⟨w3.heap.size, 3, none⟩) (Nat.le_refl _) _⟩
                case measure => simp [intOf]
              · obtain ⟨q0, q1, q2, q3, q4⟩ := HL.out.cells
                obtain ⟨n0, f0⟩ := HI.out.cell (k := 4) rfl
                go_wp2_with fail
                refine (total_card M2 V2 c2 _ (HM2.out.on HW.out).sps hmM2 HZ4.out HC4.out).mono ?_
                rintro e w4 ⟨⟨rfl, b1, b2⟩, hb⟩
                have HI4 := Lib.hid (HI.out.on hb)
                have HL4 := Lib.hid (HL.out.on hb)
                have HW4 := Lib.hid (bstep HW.out hb)
                have BD : Hid (0 ≤ t4 ∧ t4 ≤ 4398046511104) := ⟨b1, b2⟩
                have hlt4 := HI4.out.lt
                clear hb n0 f0 b1 b2
                obtain ⟨n0, f0⟩ := HI4.out.cell (k := 4) rfl
                go_wp2_with fail
                go_roundw
                case rel => exact ⟨5, by omega, by go_num, fun _ => G0.out (by omega), fun _ => G1.out (by omega), fun _ => G2.out (by omega), fun _ => G3.out (by omega), fun _ => BD.out, HI4.out.store 4 t4, HL4.out.far (by simp) _, HW4.out.setCell (p := ⟨w3.heap.size, 4, none⟩) (Nat.le_refl _) _⟩
                case measure => simp [intOf]
              · obtain ⟨r1, r2⟩ := G0.out (by omega)
                obtain ⟨r3, r4⟩ := G1.out (by omega)
                obtain ⟨r5, r6⟩ := G2.out (by omega)
                obtain ⟨r7, r8⟩ := G3.out (by omega)
                obtain ⟨r9, r10⟩ := G4.out (by omega)
                obtain ⟨n0, -⟩ := HI.out.cell (k := 0) rfl
                obtain ⟨n1, -⟩ := HI.out.cell (k := 1) rfl
                obtain ⟨n2, -⟩ := HI.out.cell (k := 2) rfl
                obtain ⟨n3, -⟩ := HI.out.cell (k := 3) rfl
                obtain ⟨n4, -⟩ := HI.out.cell (k := 4) rfl
                have KE : Hid (∀ W, Below wr.heap.size wr.drew W → W.cell? ⟨w3.heap.size, 0, none⟩ = some (.int .i64 t0) ∧ W.cell? ⟨w3.heap.size, 1, none⟩ = some (.int .i64 t1) ∧ W.cell? ⟨w3.heap.size, 2, none⟩ = some (.int .i64 t2) ∧ W.cell? ⟨w3.heap.size, 3, none⟩ = some (.int .i64 t3) ∧ W.cell? ⟨w3.heap.size, 4, none⟩ = some (.int .i64 t4)) := fun W hb => by
                  have h := HI.out.on ((Below.refl wr.heap.size wr).drew.trans hb)
                  exact ⟨(h.cell (k := 0) rfl).1, (h.cell (k := 1) rfl).1, (h.cell (k := 2) rfl).1, (h.cell (k := 3) rfl).1, (h.cell (k := 4) rfl).1⟩
                have y1 : IntKind.i64.wrap (t0 + t1) = t0 + t1 := wrap_id (by omega) (by omega)
                have y2 : IntKind.i64.wrap (t2 + t3) = t2 + t3 := wrap_id (by omega) (by omega)
                have y3 : IntKind.i64.wrap (t3 + t4) = t3 + t4 := wrap_id (by omega) (by omega)
                have u1 : ((t0 + t1 : Int) == t2 + t3) = true := by rw [S1.out]; simp
                have u2 : ((t0 : Int) == t3 + t4) = true := by rw [S2.out]; simp
                go_wp2_with fail
                go_region_held3 (fun W' => W'.cell? ⟨w3.heap.size, 0, none⟩ = some (.int .i64 t0) ∧ W'.cell? ⟨w3.heap.size, 1, none⟩ = some (.int .i64 t1) ∧ W'.cell? ⟨w3.heap.size, 2, none⟩ = some (.int .i64 t2) ∧ W'.cell? ⟨w3.heap.size, 3, none⟩ = some (.int .i64 t3) ∧ W'.cell? ⟨w3.heap.size, 4, none⟩ = some (.int .i64 t4))
                  (first | exact ⟨n0, n1, n2, n3, n4⟩ | exact KE.out _ (hb.mono (Nat.le_refl _)))
                  ((go_at_call 13; (with_reducible refine (awake _).mono ?_); rintro e w5 ⟨rfl, hb⟩))
                have HW5 : Hid (Below w.heap.size w w5) := ((B3.out.trans (HW.out.mono (B3.out.size))).drew).trans (hb.mono (Nat.le_trans B3.out.size HW.out.size))
                clear hb y1 y2 y3
                go_wp2_with fail
                go_ret
                exact ⟨rfl, HW5.out⟩
          · obtain ⟨z1, z2⟩ := ne_facts he2
            clear he2
            go_wp2_with fail
            refine (awake _).mono ?_
            rintro e wa3 ⟨rfl, hb⟩
            have C4 := Lib.hid hb
            have B4 := Lib.hid (bstep B3.out C4.out)
            replace Ha := Lib.hid (Ha.out.on C4.out)
            replace Hb := Lib.hid (Hb.out.on C4.out)
            replace HM0 := Lib.hid (HM0.out.on C4.out)
            replace HM1 := Lib.hid (HM1.out.on C4.out)
            replace HM2 := Lib.hid (HM2.out.on C4.out)
            clear hb
            go_wp2_with fail
            go_ret
            exact ⟨rfl, B4.out⟩
        · obtain ⟨z1, z2⟩ := ne_facts he1
          clear he1
          go_wp2_with fail
          refine (awake _).mono ?_
          rintro e wa3 ⟨rfl, hb⟩
          have C4 := Lib.hid hb
          have B4 := Lib.hid (bstep B3.out C4.out)
          replace Ha := Lib.hid (Ha.out.on C4.out)
          replace Hb := Lib.hid (Hb.out.on C4.out)
          replace HM0 := Lib.hid (HM0.out.on C4.out)
          replace HM1 := Lib.hid (HM1.out.on C4.out)
          replace HM2 := Lib.hid (HM2.out.on C4.out)
          clear hb
          go_wp2_with fail
          go_ret
          exact ⟨rfl, B4.out⟩
      · obtain ⟨z1, z2⟩ := ne_facts he0
        clear he0
        go_wp2_with fail
        refine (awake _).mono ?_
        rintro e wa3 ⟨rfl, hb⟩
        have C4 := Lib.hid hb
        have B4 := Lib.hid (bstep B3.out C4.out)
        replace Ha := Lib.hid (Ha.out.on C4.out)
        replace Hb := Lib.hid (Hb.out.on C4.out)
        replace HM0 := Lib.hid (HM0.out.on C4.out)
        replace HM1 := Lib.hid (HM1.out.on C4.out)
        replace HM2 := Lib.hid (HM2.out.on C4.out)
        clear hb
        go_wp2_with fail
        go_ret
        exact ⟨rfl, B4.out⟩
#print axioms walk_SpanCounts
end Go.Proofs.Ytidgcgnedeekhaa.Span
