/- Thin of the reference. -/
import Derived.Test.YtkbnhmgladkojaaAlignR
namespace Go.Proofs.Ytkbnhmgladkojaa.Align
open Go.ChangeShapes Go.WideShapes Go.RowKit Go.Lib Go.Proofs.Ytkbnhmgladkojaa.Rw
set_option linter.unusedVariables false
set_option maxRecDepth 100000

set_option maxHeartbeats 6400000 in
theorem ref_Thin (L : List Mk) (A : Option Addr) (c : Nat) (w : World) (ha : Mks w A L) (hm : L.length ≤ 9223372036854775807) :
    Calls Try.prog 22 #[.slice A L.length c] w (ThnR (thnV L) (chkA L) w) := by
  have HA := Lib.hid ha
  have HCk := Lib.hid (ref_Check L A c w ha hm)
  clear ha
  obtain ⟨T, hT⟩ : ∃ T, thnV L = T := ⟨_, rfl⟩
  obtain ⟨E, hE⟩ : ∃ E, chkA L = E := ⟨_, rfl⟩
  have HTn := Lib.hid hT
  have HE := Lib.hid hE
  rw [hE] at HCk
  rw [hT, hE]
  clear hT hE
  go_enter Try.func22, Try.ntmps22
  go_wp2_with fail
  refine HCk.out.mono ?_
  rintro e w1 ⟨rfl, hb1⟩
  have HB1 := Lib.hid hb1
  clear hb1 HCk
  by_cases hz : E = 0
  · subst hz
    obtain ⟨m, q, N, hac⟩ := Ac.of HE.out
    have HC := Lib.hid hac
    have HK0 := Lib.hid (Kep.start HE.out hac)
    rw [HTn.out] at HK0
    have hN := hac.len
    have h1N := hac.two
    have hNf := hac.few
    obtain ⟨b, off, rfl, hb⟩ := rd_ne (HA.out.on HB1.out) (show 0 < L.length by omega)
    obtain ⟨c0, c1⟩ := at_k (HA.out.on HB1.out) hac.fst
    rw [Nat.zero_mul, Nat.add_zero] at c0 c1
    have wN : IntKind.i64.wrap (N : Int) = (N : Int) := wrap_id (by omega)
    have i0 : (0 : Int) < (N : Int) + 1 := by omega
    clear hac
    go_upto_region 5 with fail
    obtain ⟨w2, hw2⟩ : ∃ W, w1.alloc (.cells #[.int .i64 m.1, .int .i64 m.2] 41) = W := ⟨_, rfl⟩
    have HR2 : Hid (Row cM 2 TM w.heap.size w2 (.slice (some ⟨w1.heap.size, 0, none⟩) 1 1) [m]) := hw2 ▸ row_lit_at _ m rfl HB1.out.size
    have HB2 : Hid (Below w.heap.size w w2) := bstep HB1.out (hw2 ▸ below_alloc _ _)
    rw [hw2]
    clear hw2 c0 c1
    go_wp2_with fail
    go_loopw [5, 6] (fun kept i wr => ∃ (k : Nat) (p : Mk) (S : List Mk) (A' : Option Addr) (n' c' : Nat), k ≤ N ∧ i = .int .i64 ((k : Int) + 1) ∧ kept = .slice A' n' c' ∧ n' = S.length ∧ Kep L T k p S ∧ Row cM 2 TM w.heap.size wr (.slice A' n' c') S ∧ Below w.heap.size w wr) (fun _ i _ => N + 1 - (RowKit.intOf i).toNat)
    case atStart => exact ⟨0, m, [m], _, 1, 1, Nat.zero_le _, rfl, rfl, rfl, HK0.out, HR2.out, HB2.out⟩
    case round =>
      obtain ⟨k, p, S, A', n', c', hk, rfl, rfl, hn', hkep, hrow, hbel⟩ := hrel
      have HKp := Lib.hid hkep
      have HR := Lib.hid hrow
      have HB := Lib.hid hbel
      rcases Nat.lt_or_ge k N with hlt | hge
      · obtain ⟨x, hx⟩ := get_lt (L := L) (k := k + 1) (by omega)
        obtain ⟨Rr, hRr⟩ := hkep.last
        obtain ⟨M, rfl⟩ : ∃ M, n' = M + 1 := ⟨Rr.length, by rw [hn', hRr, List.length_append]; rfl⟩
        have HN' := Lib.hid hn'
        have hMl : M ≤ 63 := by have := hkep.len; omega
        have HX := Lib.hid hx
        obtain ⟨c0, c1⟩ := at_k (HA.out.on HB.out) hx
        have hbb := rd_lt (HA.out.on HB.out) hx
        have i1 : (k : Int) + 1 < (N : Int) + 1 := by omega
        have i2 : (0 : Int) ≤ (k : Int) + 1 := by omega
        have i3 : k + 1 < N + 1 := by omega
        have wM : IntKind.i64.wrap (M : Int) = (M : Int) := wrap_id (by omega)
        have i4 : (M : Int) < (M : Int) + 1 := by omega
        have hSp : S[M]? = some p := by
          have h1 : Rr.length = M := by rw [hRr, List.length_append] at hn'; simp at hn'; omega
          rw [hRr, ← h1]
          simp
        by_cases hlast : k + 1 = N
        · have t1 : (((k : Int) + 1) == (N : Int)) = true := by simp; omega
          have HKn := Lib.hid (hkep.last_ hx (by omega)).2
          clear hx hkep hrow hbel hn' hlast hRr hSp
          go_wp2_with fail
          go_quiet (fail)
          have HBq := Lib.hid (below_drewN HB.out nq)
          have HRq := Lib.hid (HR.out.on (below_drewN (Below.refl _ _) nq))
          have hbq : b < (wr.drewN nq).heap.size := hbb
          have d0 : (wr.drewN nq).cell? ⟨b, off + (k + 1) * 2, none⟩ = some (.int .i64 x.1) := c0
          have d1 : (wr.drewN nq).cell? ⟨b, off + (k + 1) * 2 + 1, none⟩ = some (.int .i64 x.2) := c1
          generalize hwq : wr.drewN nq = wz at HBq HRq hbq d0 d1
          clear hwq c0 c1 hbb t1
          have HSl : Hid (S.length + 1 ≤ 1000000) := Lib.hid (by have := HKp.out.len; omega)
          have HGA : Hid (w.heap.size ≤ (wz.alloc (.cells #[.int .i64 x.1, .int .i64 x.2] 41)).heap.size) := Nat.le_trans HBq.out.size (below_alloc _ _).size
          go_wp2_with (at_builtin; refine append_rows kdM rfl (.tmp 46) (.tmp 51) rfl (.slice A' (M + 1) c') S rfl (HRq.out.on (below_alloc _ _)) (some ⟨wz.heap.size, 0, none⟩) 1 1 [x] rfl rfl (rd_one cM_len (heap_alloc_new _ _)) HSl.out HGA.out ?_; intro A5 n5 c5 w5 hn5 hr5 hg5 hat5; have HN5 := Lib.hid hn5; have HR5 := Lib.hid hr5; have HG5 := Lib.hid hg5; clear hn5 hr5 hg5 hat5; refine Hid.out ?_)
          have HB5 : Hid (Below w.heap.size w w5) := (HBq.out.trans ((below_alloc wz _).mono HBq.out.size)).trans ((HRq.out.on (below_alloc wz _)).below HG5.out HGA.out)
          have HN6 : Hid (n5 = (S ++ [x]).length) := Lib.hid (by rw [HN5.out, List.length_append]; rfl)
          refine Lib.hid ?_
          go_wp2_with fail
          go_roundw
          case rel => exact ⟨k + 1, x, S ++ [x], A5, n5, c5, by omega, by go_num, rfl, HN6.out, HKn.out, HR5.out, HB5.out⟩
          case measure => simp [RowKit.intOf]; omega
        · obtain ⟨n, hnx⟩ := get_lt (L := L) (k := k + 1 + 1) (by omega)
          have t1 : (((k : Int) + 1) == (N : Int)) = false := beq_false_of_ne (by omega)
          obtain ⟨j, hj, hp⟩ := hkep.at_
          have HL := Lib.hid fun W => ref_line p x n W (HC.out.way hp hj hx hnx)
          obtain ⟨r, hr⟩ : ∃ r, lin p x n = r := ⟨_, rfl⟩
          rw [hr] at HL
          obtain ⟨g, cap, eA, hg1, hg2, -, -⟩ := hrow.blk (by omega)
          obtain ⟨rfl, -, -⟩ := Value.slice.inj eA
          have e0 := hrow.cell cM_len hSp (j := 0) (u := .int .i64 p.1) rfl
          have e1 := hrow.cell cM_len hSp (j := 1) (u := .int .i64 p.2) rfl
          rw [Nat.add_zero] at e0
          obtain ⟨c2, c3⟩ := at_k (HA.out.on HB.out) hnx
          have HNX := Lib.hid hnx
          have HRr := Lib.hid hr
          have i5 : (k : Int) + 1 + 1 < (N : Int) + 1 := by omega
          have i6 : (0 : Int) ≤ (k : Int) + 1 + 1 := by omega
          have i7 : k + 1 + 1 < N + 1 := by omega
          have tk : ((k : Int) + 1 + 1).toNat = k + 1 + 1 := by omega
          have wk : IntKind.i64.wrap ((k : Int) + 1 + 1) = (k : Int) + 1 + 1 := wrap_id (by omega)
          have HS3 : Hid (∀ W, Below wr.heap.size wr W → (W.cell? ⟨g, M * 2, none⟩ = some (.int .i64 p.1) ∧ W.cell? ⟨g, M * 2 + 1, none⟩ = some (.int .i64 p.2)) ∧ (W.cell? ⟨b, off + (k + 1) * 2, none⟩ = some (.int .i64 x.1) ∧ W.cell? ⟨b, off + (k + 1) * 2 + 1, none⟩ = some (.int .i64 x.2)) ∧ (W.cell? ⟨b, off + (k + 1 + 1) * 2, none⟩ = some (.int .i64 n.1) ∧ W.cell? ⟨b, off + (k + 1 + 1) * 2 + 1, none⟩ = some (.int .i64 n.2))) := fun W h =>
            ⟨⟨(h.cell (p := ⟨g, M * 2, none⟩) hg2).trans e0, (h.cell (p := ⟨g, M * 2 + 1, none⟩) hg2).trans e1⟩, ⟨(h.cell (p := ⟨b, off + (k + 1) * 2, none⟩) hbb).trans c0, (h.cell (p := ⟨b, off + (k + 1) * 2 + 1, none⟩) hbb).trans c1⟩, ⟨(h.cell (p := ⟨b, off + (k + 1 + 1) * 2, none⟩) hbb).trans c2, (h.cell (p := ⟨b, off + (k + 1 + 1) * 2 + 1, none⟩) hbb).trans c3⟩⟩
          clear hx hnx hp hj hkep hrow hbel hn' hlast hRr hSp hr eA hg1
          go_upto_region 8 with fail
          go_region_held3 (fun W => (W.cell? ⟨g, M * 2, none⟩ = some (.int .i64 p.1) ∧ W.cell? ⟨g, M * 2 + 1, none⟩ = some (.int .i64 p.2)) ∧ (W.cell? ⟨b, off + (k + 1) * 2, none⟩ = some (.int .i64 x.1) ∧ W.cell? ⟨b, off + (k + 1) * 2 + 1, none⟩ = some (.int .i64 x.2)) ∧ (W.cell? ⟨b, off + (k + 1 + 1) * 2, none⟩ = some (.int .i64 n.1) ∧ W.cell? ⟨b, off + (k + 1 + 1) * 2 + 1, none⟩ = some (.int .i64 n.2)))
            (first | exact HS3.out _ (Below.refl _ _) | exact HS3.out _ (drew_below _) | exact HS3.out _ (bstep (drew_below _) hb4))
            ((go_at_call 34; (refine (HL.out _).mono ?_); rintro e w4 ⟨rfl, hb4⟩))
          all_goals
            have HB34 := Lib.hid (bstep (drew_below wr) hb4)
            have HB4 := Lib.hid (HB.out.trans (HB34.out.mono HB.out.size))
            have HR4 := Lib.hid (HR.out.on HB34.out)
            obtain ⟨-, ⟨d0, d1⟩, -⟩ := HS3.out _ HB34.out
            have hb4' : b < w4.heap.size := Nat.lt_of_lt_of_le hbb HB34.out.size
            clear hb4 c0 c1 c2 c3 e0 e1
            cases r with
            | true =>
              have HKn := Lib.hid (HKp.out.skip HX.out HNX.out HRr.out)
              go_wp2_with fail
              go_roundw
              case rel => exact ⟨k + 1, p, S, _, M + 1, c', by omega, by go_num, rfl, HN'.out, HKn.out, HR4.out, HB4.out⟩
              case measure => simp [RowKit.intOf]; omega
            | false =>
              have HKn := Lib.hid (HKp.out.keep HX.out HNX.out HRr.out)
              have HSl : Hid (S.length + 1 ≤ 1000000) := Lib.hid (by have := HKp.out.len; omega)
              have HGA : Hid (w.heap.size ≤ (w4.alloc (.cells #[.int .i64 x.1, .int .i64 x.2] 41)).heap.size) := Nat.le_trans HB4.out.size (below_alloc _ _).size
              go_wp2_with (at_builtin; refine append_rows kdM rfl (.tmp 46) (.tmp 51) rfl (.slice (some ⟨g, 0, none⟩) (M + 1) c') S rfl (HR4.out.on (below_alloc _ _)) (some ⟨w4.heap.size, 0, none⟩) 1 1 [x] rfl rfl (rd_one cM_len (heap_alloc_new _ _)) HSl.out HGA.out ?_; intro A5 n5 c5 w5 hn5 hr5 hg5 hat5; have HN5 := Lib.hid hn5; have HR5 := Lib.hid hr5; have HG5 := Lib.hid hg5; clear hn5 hr5 hg5 hat5; refine Hid.out ?_)
              have HB5 : Hid (Below w.heap.size w w5) := (HB4.out.trans ((below_alloc w4 _).mono HB4.out.size)).trans ((HR4.out.on (below_alloc w4 _)).below HG5.out HGA.out)
              have HN6 : Hid (n5 = (S ++ [x]).length) := Lib.hid (by rw [HN5.out, List.length_append]; rfl)
              refine Lib.hid ?_
              go_wp2_with fail
              go_roundw
              case rel => exact ⟨k + 1, x, S ++ [x], A5, n5, c5, by omega, by go_num, rfl, HN6.out, HKn.out, HR5.out, HB5.out⟩
              case measure => simp [RowKit.intOf]; omega
      · obtain rfl : k = N := by omega
        have hall := hkep.all
        rw [List.drop_eq_nil_of_le (by omega)] at hall
        have hST : S = T := by simpa [thn] using hall
        subst hST
        obtain ⟨A6, c6, e6, hle6, -, hrd6, -, -⟩ := hrow.one cM_len
        obtain ⟨rfl, hn6, rfl⟩ := Value.slice.inj e6
        have HE6 := Lib.hid hle6
        have HRd6 := Lib.hid hrd6
        have HN6 := Lib.hid hn6
        have i1 : decide ((k : Int) + 1 < (k : Int) + 1) = false := decide_eq_false (by omega)
        clear hle6 hrd6 hn6 e6 hkep hrow hbel hn' hall
        go_wp2_with fail
        go_ret2
        exact ⟨A', c', (by rw [← HN6.out]; rfl), HE6.out, HRd6.out, HB.out⟩
  · obtain ⟨z1, z2⟩ := ne_tests hz
    have HT0 := HTn.out
    rw [thnV_bad (by rw [HE.out]; exact hz)] at HT0
    subst HT0
    clear hz
    go_wp2_with fail
    go_ret2
    exact ⟨none, 0, rfl, Nat.le_refl _, Rd.nil _ _ _ _, HB1.out⟩
#print axioms ref_Thin
end Go.Proofs.Ytkbnhmgladkojaa.Align
