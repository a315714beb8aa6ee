/- Thin of the program. -/
import Derived.Test.YtkbnhmgladkojaaAlignR
namespace Go.Proofs.Ytkbnhmgladkojaa.Align
open Go.ChangeShapes Go.WideShapes Go.RowKit Go.Lib Go.Proofs.Ytkbnhmgladkojaa.Rw
set_option linter.unusedVariables false
set_option maxRecDepth 100000

set_option maxHeartbeats 6400000 in
theorem align_Thin (L : List Mk) (A : Option Addr) (c : Nat) (w : World) (ha : Mks w A L) (hm : L.length ≤ 9223372036854775807) (hcap : L.length ≤ c) :
    Calls Try.prog 21 #[.slice A L.length c] w (ThnR (thnV L) (chkA L) w) := by
  have HA := Lib.hid ha
  have HCk := Lib.hid (align_Check L A c w ha hm hcap)
  have HCap := Lib.hid hcap
  clear ha hcap
  obtain ⟨T, hT⟩ : ∃ T, thnV L = T := ⟨_, rfl⟩
  obtain ⟨E, hE⟩ : ∃ E, chkA L = E := ⟨_, rfl⟩
  have HTn := Lib.hid hT
  have HE := Lib.hid hE
  rw [hE] at HCk
  rw [hT, hE]
  clear hT hE
  go_enter Try.func21, Try.ntmps21
  go_wp2_with fail
  refine HCk.out.mono ?_
  rintro e w1 ⟨rfl, hb1⟩
  have HB1 := Lib.hid hb1
  clear hb1 HCk
  by_cases hz : E = 0
  · subst hz
    obtain ⟨m, q, N, hac⟩ := Ac.of HE.out
    have HC := Lib.hid hac
    have HK0 := Lib.hid (Kep.start HE.out hac)
    rw [HTn.out] at HK0
    have hN := hac.len
    have h1N := hac.two
    have hNf := hac.few
    obtain ⟨K1, rfl⟩ : ∃ K1, N = K1 + 1 := ⟨N - 1, by omega⟩
    have hcN : K1 + 1 + 1 ≤ c := by have := HCap.out; omega
    obtain ⟨b, off, rfl, hb⟩ := rd_ne (HA.out.on HB1.out) (show 0 < L.length by omega)
    obtain ⟨c0, c1⟩ := at_k (HA.out.on HB1.out) hac.fst
    rw [Nat.zero_mul, Nat.add_zero] at c0 c1
    have wN : IntKind.i64.wrap ((K1 : Int) + 1) = (K1 : Int) + 1 := wrap_id (by omega)
    have i0 : (0 : Int) < (K1 : Int) + 1 + 1 := by omega
    clear hac
    go_upto_region 6 with fail
    obtain ⟨w2, hw2⟩ : ∃ W, (w1.alloc (.cells #[.int .i64 m.1, .int .i64 m.2] 41)).alloc (.cells #[.int .i64 m.1, .int .i64 m.2] 41) = W := ⟨_, rfl⟩
    have HP2 : Hid (Cel w2 w1.heap.size [.int .i64 m.1, .int .i64 m.2]) := hw2 ▸ (Cel.new w1 [.int .i64 m.1, .int .i64 m.2] _).alloc _
    have HR2 : Hid (Row cM 2 TM (w1.heap.size + 1) w2 (.slice (some ⟨w1.heap.size + 1, 0, none⟩) 1 1) [m]) := hw2 ▸ row_lit_at _ m (by simp) (Nat.le_refl _)
    have HB2 : Hid (Below w.heap.size w w2) := bstep HB1.out (hw2 ▸ bstep (below_alloc _ _) (below_alloc _ _))
    have HG2 : Hid (w1.heap.size + 1 ≤ w2.heap.size) := Lib.hid (by rw [← hw2]; simp)
    rw [hw2]
    clear hw2 c0 c1
    have l1 : 1 ≤ c := by omega
    have l2 : (1 : Int) ≤ (c : Int) := by omega
    have l3 : ¬ c = 1 := by omega
    have l4 : (K1 : Int) + 1 ≤ (c : Int) := by omega
    have l5 : K1 + 1 ≤ c := by omega
    have l6 : (1 : Int) ≤ (K1 : Int) + 1 := by omega
    have l7 : (0 : Int) ≤ (K1 : Int) + 1 := by omega
    go_wp2_with fail
    clear l1 l2 l3 l4 l5 l6 l7
    go_loopw [7, 27] (fun kept i wr => ∃ (k : Nat) (p : Mk) (S : List Mk) (A' : Option Addr) (n' c' : Nat), k ≤ K1 ∧ i = .int .i64 k ∧ kept = .slice A' n' c' ∧ n' = S.length ∧ Kep L T k p S ∧ Cel wr w1.heap.size [.int .i64 p.1, .int .i64 p.2] ∧ Row cM 2 TM (w1.heap.size + 1) wr (.slice A' n' c') S ∧ Below w.heap.size w wr ∧ w1.heap.size + 1 ≤ wr.heap.size) (fun _ i _ => K1 - (RowKit.intOf i).toNat)
    case atStart => exact ⟨0, m, [m], _, 1, 1, Nat.zero_le _, rfl, rfl, rfl, HK0.out, HP2.out, HR2.out, HB2.out, HG2.out⟩
    case round =>
      obtain ⟨k, p, S, A', n', c', hk, rfl, rfl, hn', hkep, hcel, hrow, hbel, hgs⟩ := hrel
      have HKp := Lib.hid hkep
      have HP := Lib.hid hcel
      have HR := Lib.hid hrow
      have HB := Lib.hid hbel
      have HGS := Lib.hid hgs
      have HN' := Lib.hid hn'
      rcases Nat.lt_or_ge k K1 with hlt | hge
      · obtain ⟨x, hx⟩ := get_lt (L := L) (k := k + 1) (by omega)
        obtain ⟨n, hnx⟩ := get_lt (L := L) (k := k + 1 + 1) (by omega)
        obtain ⟨j, hj, hp⟩ := hkep.at_
        have HL := Lib.hid fun W => align_isOnLine x p n W (HC.out.way hp hj hx hnx)
        obtain ⟨r, hr⟩ : ∃ r, lin p x n = r := ⟨_, rfl⟩
        rw [hr] at HL
        obtain ⟨c0, c1⟩ := at_k1 (HA.out.on HB.out) hx
        obtain ⟨c2, c3⟩ := at_k (HA.out.on HB.out) hnx
        rw [show k + 1 + 1 = k + 2 by omega] at c2 c3
        have hbb := rd_lt (HA.out.on HB.out) hx
        have HCN : Hid (∀ W, Below wr.heap.size wr W → W.cell? ⟨b, off + (k + 2) * 2, none⟩ = some (.int .i64 n.1) ∧ W.cell? ⟨b, off + (k + 2) * 2 + 1, none⟩ = some (.int .i64 n.2)) := fun W h => ⟨(h.cell (p := ⟨b, off + (k + 2) * 2, none⟩) hbb).trans c2, (h.cell (p := ⟨b, off + (k + 2) * 2 + 1, none⟩) hbb).trans c3⟩
        have HX := Lib.hid hx
        have HNX := Lib.hid hnx
        have HRr := Lib.hid hr
        have i1 : (k : Int) < (K1 : Int) := by omega
        have i2 : (0 : Int) ≤ (k : Int) + 2 := by omega
        have i4 : k + 2 < K1 + 1 + 1 := by omega
        have i5 : (k : Int) + 2 < (K1 : Int) + 1 + 1 := by omega
        have tk : ((k : Int) + 2).toNat = k + 2 := by omega
        have wk : IntKind.i64.wrap ((k : Int) + 2) = (k : Int) + 2 := wrap_id (by omega)
        clear hx hnx hp hj hkep hcel hrow hbel hgs hn' hr
        go_upto_region 9 with fail
        generalize hw3 : wr.alloc (.cells #[.int .i64 x.1, .int .i64 x.2] 41) = w3
        have HB3 : Hid (Below wr.heap.size wr w3) := hw3 ▸ below_alloc _ _
        have HX3 : Hid (Cel w3 wr.heap.size [.int .i64 x.1, .int .i64 x.2]) := hw3 ▸ Cel.new wr [.int .i64 x.1, .int .i64 x.2] _
        have HP3 := Lib.hid (HP.out.on HB3.out)
        have HR3 := Lib.hid (HR.out.on HB3.out)
        clear hw3 c0 c1 c2 c3
        have HS3 : Hid (∀ W, Below w3.heap.size w3 W → (W.cell? ⟨wr.heap.size, 0, none⟩ = some (.int .i64 x.1) ∧ W.cell? ⟨wr.heap.size, 1, none⟩ = some (.int .i64 x.2)) ∧ (W.cell? ⟨w1.heap.size, 0, none⟩ = some (.int .i64 p.1) ∧ W.cell? ⟨w1.heap.size, 1, none⟩ = some (.int .i64 p.2)) ∧ (W.cell? ⟨b, off + (k + 2) * 2, none⟩ = some (.int .i64 n.1) ∧ W.cell? ⟨b, off + (k + 2) * 2 + 1, none⟩ = some (.int .i64 n.2))) := fun W h => ⟨(HX3.out.on h).two, (HP3.out.on h).two, HCN.out W (bstep HB3.out h)⟩
        obtain ⟨⟨x0, x1⟩, ⟨x2, x3⟩, x4, x5⟩ := HS3.out _ (Below.refl _ _)
        go_region_held3 (fun W => (W.cell? ⟨wr.heap.size, 0, none⟩ = some (.int .i64 x.1) ∧ W.cell? ⟨wr.heap.size, 1, none⟩ = some (.int .i64 x.2)) ∧ (W.cell? ⟨w1.heap.size, 0, none⟩ = some (.int .i64 p.1) ∧ W.cell? ⟨w1.heap.size, 1, none⟩ = some (.int .i64 p.2)) ∧ (W.cell? ⟨b, off + (k + 2) * 2, none⟩ = some (.int .i64 n.1) ∧ W.cell? ⟨b, off + (k + 2) * 2 + 1, none⟩ = some (.int .i64 n.2)))
          (first | exact HS3.out _ (Below.refl _ _) | exact HS3.out _ (drew_below _) | exact HS3.out _ (bstep (drew_below _) hb4))
          ((go_at_call 33; (refine (HL.out _).mono ?_); rintro e w4 ⟨rfl, hb4⟩))
        all_goals
          have HB34 := Lib.hid (bstep (drew_below w3) hb4)
          have HB4 := Lib.hid (HB.out.trans ((bstep HB3.out HB34.out).mono HB.out.size))
          have HX4 := Lib.hid (HX3.out.on HB34.out)
          have HP4 := Lib.hid (HP3.out.on HB34.out)
          have HR4 := Lib.hid (HR3.out.on HB34.out)
          have HG4 : Hid (w1.heap.size + 1 ≤ w4.heap.size) := Nat.le_trans HGS.out (Nat.le_trans HB3.out.size HB34.out.size)
          clear hb4 x0 x1 x2 x3 x4 x5
          cases r with
          | true =>
            have HKn := Lib.hid (HKp.out.skip HX.out HNX.out HRr.out)
            go_wp2_with fail
            go_roundw
            case rel => exact ⟨k + 1, p, S, A', n', c', by omega, by go_num, rfl, HN'.out, HKn.out, HP4.out, HR4.out, HB4.out, HG4.out⟩
            case measure => simp [RowKit.intOf]; omega
          | false =>
            have HKn := Lib.hid (HKp.out.keep HX.out HNX.out HRr.out)
            have hSl : S.length + 1 ≤ 1000000 := by have := HKp.out.len; omega
            have HSl := Lib.hid hSl
            have HGA : Hid (w1.heap.size + 1 ≤ (w4.alloc (.cells #[.int .i64 x.1, .int .i64 x.2] 41)).heap.size) := Nat.le_trans HG4.out (below_alloc _ _).size
            obtain ⟨x0, x1⟩ := HX4.out.two
            clear hSl
            go_wp2_with (at_builtin; refine append_rows kdM rfl (.tmp 41) (.tmp 43) rfl (.slice A' n' c') S rfl (HR4.out.on (below_alloc _ _)) (some ⟨w4.heap.size, 0, none⟩) 1 1 [x] rfl rfl (rd_one cM_len (heap_alloc_new _ _)) HSl.out HGA.out ?_; intro A5 n5 c5 w5 hn5 hr5 hg5 hat5; have HN5 := Lib.hid hn5; have HR5 := Lib.hid hr5; have HG5 := Lib.hid hg5; clear hn5 hr5 hg5 hat5; refine Hid.out ?_)
            have HRa := Lib.hid (HR4.out.on (below_alloc w4 (.cells #[.int .i64 x.1, .int .i64 x.2] 41)))
            have HB5 : Hid (Below w.heap.size w w5) := (HB4.out.trans ((below_alloc w4 _).mono HB4.out.size)).trans ((HRa.out.below HG5.out HGA.out).mono (Nat.le_trans HB1.out.size (Nat.le_succ _)))
            have HX5 : Hid (Cel w5 wr.heap.size [.int .i64 x.1, .int .i64 x.2]) := (HX4.out.alloc _).grown HG5.out fun h => by have := (HR.out.lt _ h).2; omega
            have HP5 : Hid (Cel w5 w1.heap.size [.int .i64 p.1, .int .i64 p.2]) := (HP4.out.alloc _).grown HG5.out fun h => by have := (HR.out.lt _ h).1; omega
            have HS5 : Hid (w1.heap.size + 1 ≤ w5.heap.size) := Nat.le_trans HGA.out HG5.out.size
            obtain ⟨w6, hw6⟩ : ∃ W, (w5.setCell ⟨w1.heap.size, 0, none⟩ (.int .i64 x.1)).setCell ⟨w1.heap.size, 1, none⟩ (.int .i64 x.2) = W := ⟨_, rfl⟩
            have HO6 : Hid (Off (fun k => k = w1.heap.size) w5 w6) := hw6 ▸ off_put2 _ _ _ _
            have HP6 : Hid (Cel w6 w1.heap.size [.int .i64 x.1, .int .i64 x.2]) := hw6 ▸ HP5.out.put2 _ _
            have HR6 : Hid (Row cM 2 TM (w1.heap.size + 1) w6 (.slice A5 n5 c5) (S ++ [x])) := HR5.out.keep fun h hh => HO6.out.block h (HR5.out.lt h hh).2 (by have := (HR5.out.lt h hh).1; omega)
            have HB6 : Hid (Below w.heap.size w w6) := HB5.out.trans (HO6.out.below (by have := HS5.out; have := HB1.out.size; omega) fun y hy => by have := HB1.out.size; omega)
            have HS6 : Hid (w1.heap.size + 1 ≤ w6.heap.size) := Nat.le_trans HS5.out HO6.out.size
            have HN6 : Hid (n5 = (S ++ [x]).length) := Lib.hid (by rw [HN5.out, List.length_append]; rfl)
            obtain ⟨y0, y1⟩ := HX5.out.two
            obtain ⟨y2, y3⟩ := HP5.out.two
            obtain ⟨y4, y5⟩ := HP5.out.warm2
            refine Lib.hid ?_
            go_upto_region 12 with fail
            clear hw6 y0 y1 y2 y3 y4 y5 x0 x1
            go_wp2_with fail
            go_roundw
            case rel => exact ⟨k + 1, x, S ++ [x], A5, n5, c5, by omega, by go_num, rfl, HN6.out, HKn.out, HP6.out, HR6.out, HB6.out, HS6.out⟩
            case measure => simp [RowKit.intOf]; omega
      · obtain rfl : k = K1 := by omega
        obtain ⟨x, hx⟩ := get_lt (L := L) (k := k + 1) (by omega)
        obtain ⟨c2, c3⟩ := at_k (HA.out.on HB.out) hx
        have HFin := Lib.hid (HKp.out.last_ hx hN).1
        have HSl : Hid (S.length + 1 ≤ 1000000) := Lib.hid (by have := HKp.out.len; omega)
        have HGA : Hid (w1.heap.size + 1 ≤ (wr.alloc (.cells #[.int .i64 x.1, .int .i64 x.2] 41)).heap.size) := Nat.le_trans HGS.out (below_alloc _ _).size
        have i1 : (k : Int) + 1 < (k : Int) + 1 + 1 := by omega
        clear hx hkep hcel hrow hbel hgs hn'
        go_wp2_with (at_builtin; refine append_rows kdM rfl (.tmp 47) (.tmp 52) rfl (.slice A' n' c') S rfl (HR.out.on (below_alloc _ _)) (some ⟨wr.heap.size, 0, none⟩) 1 1 [x] rfl rfl (rd_one cM_len (heap_alloc_new _ _)) HSl.out HGA.out ?_; intro A5 n5 c5 w5 hn5 hr5 hg5 hat5; have HN5 := Lib.hid hn5; have HR5 := Lib.hid hr5; have HG5 := Lib.hid hg5; clear hn5 hr5 hg5 hat5; refine Hid.out ?_)
        have HB5 : Hid (Below w.heap.size w w5) := (HB.out.trans ((below_alloc wr _).mono HB.out.size)).trans (((HR.out.on (below_alloc wr _)).below HG5.out HGA.out).mono (Nat.le_trans HB1.out.size (Nat.le_succ _)))
        obtain ⟨A6, c6, e6, hle6, -, hrd6, -, -⟩ := HR5.out.one cM_len
        obtain ⟨rfl, hn6, rfl⟩ := Value.slice.inj e6
        rw [HFin.out] at hle6 hrd6 hn6
        have HE6 := Lib.hid hle6
        have HRd6 := Lib.hid hrd6
        have HN6 := Lib.hid hn6
        clear hle6 hrd6 hn6 e6 HN5
        refine Lib.hid ?_
        go_wp2_with fail
        go_ret2
        exact ⟨A5, c5, (by rw [← HN6.out]; rfl), HE6.out, HRd6.out, HB5.out⟩
  · obtain ⟨z1, z2⟩ := ne_tests hz
    have HT0 := HTn.out
    rw [thnV_bad (by rw [HE.out]; exact hz)] at HT0
    subst HT0
    clear hz
    go_wp2_with fail
    go_ret2
    exact ⟨none, 0, rfl, Nat.le_refl _, Rd.nil _ _ _ _, HB1.out⟩
#print axioms align_Thin
end Go.Proofs.Ytkbnhmgladkojaa.Align
