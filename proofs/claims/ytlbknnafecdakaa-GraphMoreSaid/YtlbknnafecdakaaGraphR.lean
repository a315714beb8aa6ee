/- Levels of the reference. -/
import Derived.Test.YtlbknnafecdakaaGraphQ
namespace Go.Proofs.Ytlbknnafecdakaa.Graph
open Go.ChangeShapes Go.WideShapes Go.RowKit Go.Lib
set_option linter.unusedVariables false
set_option maxRecDepth 100000

theorem LeI.small {N : Nat} {L : Arcs} {k i : Nat} {o : List Int} (h : LeI N L k i o) (hok : Ok N L) (hac : Acy L) {a : Nat} (ha : a < N) : ∃ u : Nat, o[a]? = some (u : Int) ∧ u < N := by
  obtain ⟨u, h1, x, hw⟩ := h.get ha
  refine ⟨u, h1, ?_⟩
  cases u with
  | zero => omega
  | succ u => exact hac.lt hok hw (hw.fst hok)

set_option maxHeartbeats 3200000 in
theorem ref_Levels (n : Int) (zs : List Pr) (A : Option Addr) (c : Nat) (w : World) (ha : Ars w A zs) (hm : zs.length ≤ 9223372036854775807) :
    Calls Try.prog 25 #[.agg #[.int .i64 n, .slice A zs.length c]] w (Res eI w (LevP n zs)) := by
  have HA := Lib.hid ha
  clear ha
  go_enter Try.func25, Try.ntmps25
  go_upto_region 1 with fail
  obtain ⟨w1, hw1⟩ : ∃ W, w.alloc (.cells #[.int .i64 n, .slice A zs.length c] 24) = W := ⟨_, rfl⟩
  have HX1 : Hid (Bx w1 w.heap.size n A zs.length c) := hw1 ▸ Bx.new _ _ _ _ _ _
  have HB1 : Hid (Below w.heap.size w w1) := hw1 ▸ below_alloc _ _
  rw [hw1]
  clear hw1
  obtain ⟨_, x0, x1⟩ := HX1.out
  have HCO := Lib.hid (ref_Order n zs A c w1 (HA.out.on HB1.out) hm)
  go_wp2_with fail
  refine HCO.out.mono ?_
  rintro e w2 ⟨AR, cR, lR, ER, rfl, hl64, hP, hcl, hb2⟩
  have HB2 := Lib.hid (bstep HB1.out hb2)
  have HX2 := Lib.hid (HX1.out.on hb2)
  have HPO := Lib.hid hP
  obtain ⟨mR, hmR⟩ : ∃ m, m = lR.length := ⟨_, rfl⟩
  rw [← hmR]
  clear hb2 hcl hP x0 x1 hmR hl64
  rcases HPO.out with ⟨hz, rfl, rfl⟩ | ⟨N, L, hg, ⟨hno, rfl, rfl⟩ | ⟨R, hso, rfl, rfl⟩⟩
  · have HP : Hid (LevP n zs (chkE n zs) []) := Or.inl ⟨hz, rfl, rfl⟩
    have h1 : (chkE n zs == 0) = false := beq_false_of_ne hz
    have h2 : (chkE n zs != 0) = true := by simp [hz]
    clear HPO
    obtain ⟨q, hq⟩ : ∃ q, chkE n zs = q := ⟨_, rfl⟩
    rw [hq] at h1 h2 HP ⊢
    clear hz hq
    go_wp2_with fail
    go_ret2
    exact Res.no HP.out HB2.out
  · have HP : Hid (LevP n zs 11 []) := Or.inr ⟨N, L, hg, Or.inl ⟨hno, rfl, rfl⟩⟩
    clear HPO hg hno
    go_wp2_with fail
    go_ret2
    exact Res.no HP.out HB2.out
  · have HG := Lib.hid hg
    obtain rfl := hg.n
    obtain rfl := hg.zs
    have hlen : (asI L).length = L.length := asI_len L
    rw [hlen] at HX2 ⊢
    have hN := hg.le
    have hl := hg.ln
    have HSO := Lib.hid hso
    have HAC := Lib.hid (ord_acy hg.ok hso)
    clear HPO hg hso hlen
    obtain ⟨_, x0, x1⟩ := HX2.out
    have hmk := fun W => make_ints N (by omega) W
    have HO1 := Lib.hid (own_made eI 3 w2 N 0 (by omega))
    go_upto_region 5 with fail
    obtain ⟨wm, hwm⟩ : ∃ W, w2.alloc (.cells (madeCells #[.int .i64 0] N) 3) = W := ⟨_, rfl⟩
    have HBM : Hid (Below w2.heap.size w2 wm) := hwm ▸ below_alloc _ _
    have HOM : Hid (Own eI 3 w2.heap.size wm (.slice (some ⟨w2.heap.size, 0, none⟩) N N) (List.replicate N 0)) := hwm ▸ HO1.out
    rw [hwm]
    clear hwm HO1 hmk x0 x1
    go_wp2_with fail
    go_loopw [7] (fun i wr => ∃ (k : Nat) (o : List Int), k ≤ N ∧ i = .int .i64 k ∧ LeI N L k 0 o ∧ Own eI 3 w2.heap.size wr (.slice (some ⟨w2.heap.size, 0, none⟩) N N) o ∧ Below w2.heap.size w2 wr) (fun i _ => N - (intOf i).toNat)
    case atStart => exact ⟨0, _, Nat.zero_le _, rfl, LeI.start N L, HOM.out, HBM.out⟩
    case round =>
      clear HOM HBM
      obtain ⟨k, o, hk, rfl, hr, ho, hbel⟩ := hrel
      have HRE := Lib.hid hr
      have HO := Lib.hid ho
      have HW := Lib.hid hbel
      obtain ⟨_, x0, x1⟩ := HX2.out.on hbel
      clear hr ho hbel
      rcases Nat.lt_or_ge k N with hlt | hge
      · have i1 : (k : Int) < (N : Int) := by omega
        go_wp2_with fail
        go_loopw [8] (fun i wr => ∃ (j : Nat) (p : List Int), j ≤ L.length ∧ i = .int .i64 j ∧ LeI N L k j p ∧ Own eI 3 w2.heap.size wr (.slice (some ⟨w2.heap.size, 0, none⟩) N N) p ∧ Below w2.heap.size w2 wr) (fun i _ => L.length - (intOf i).toNat)
        case atStart => exact ⟨0, _, Nat.zero_le _, rfl, HRE.out, HO.out, HW.out⟩
        case round =>
          clear HRE HO HW x0 x1
          obtain ⟨j, p, hj, rfl, hr, ho, hbel⟩ := hrel
          have HRE := Lib.hid hr
          have HO := Lib.hid ho
          have HW := Lib.hid hbel
          obtain ⟨_, x0, x1⟩ := HX2.out.on hbel
          clear hr ho hbel
          rcases Nat.lt_or_ge j L.length with hlt2 | hge2
          · obtain ⟨⟨a, b⟩, hab⟩ := get_lt hlt2
            obtain ⟨b0, off, rfl, hb0, f0, f1⟩ := (HA.out.on (bstep HB2.out HW.out)).nat hab
            have hN2 := HG.out.ok a b (List.mem_of_getElem? hab)
            obtain ⟨x, hx, hx5⟩ := HRE.out.small HG.out.ok HAC.out hN2.1
            obtain ⟨y, hy, hy5⟩ := HRE.out.small HG.out.ok HAC.out hN2.2
            have HAB := Lib.hid hab
            have l1 : (a : Int) < (N : Int) := by omega
            have l2 : (0 : Int) ≤ (a : Int) := by omega
            have l3 : (b : Int) < (N : Int) := by omega
            have l4 : (0 : Int) ≤ (b : Int) := by omega
            have l5 : (j : Int) < (L.length : Int) := by omega
            have l6 : (0 : Int) ≤ (j : Int) := by omega
            have hwr : IntKind.i64.wrap ((x : Int) + 1) = (x : Int) + 1 := wrap_id (by omega)
            obtain ⟨M, hM⟩ : ∃ M, M = max (y : Int) ((x : Int) + 1) := ⟨_, rfl⟩
            have HLV2 : Hid (LeI N L k (j + 1) (p.set b M)) := hM ▸ HRE.out.arc HG.out.ok hab hx hy
            have HMM := Lib.hid hM
            go_upto_region 12 with fail
            obtain ⟨wq, hwq⟩ : ∃ W, wr.alloc (.cells #[.int .i64 (a : Int), .int .i64 (b : Int)] 42) = W := ⟨_, rfl⟩
            obtain ⟨g9, hg9⟩ : ∃ g, wr.heap.size = g := ⟨_, rfl⟩
            have hq1 : wq.cell? ⟨g9, 0, none⟩ = some (.int .i64 (a : Int)) := by rw [← hwq, ← hg9]; simp
            have hq2 : wq.cell? ⟨g9, 1, none⟩ = some (.int .i64 (b : Int)) := by rw [← hwq, ← hg9]; simp
            have HOQ : Hid (Own eI 3 w2.heap.size wq (.slice (some ⟨w2.heap.size, 0, none⟩) N N) p) := hwq ▸ HO.out.alloc _
            have HWQ : Hid (Below w2.heap.size w2 wq) := hwq ▸ HW.out.alloc HW.out.size _
            rw [hwq, hg9]
            clear hwq hg9 f0 f1 hb0 hab
            have f2 : wq.cell? ⟨w2.heap.size, b, none⟩ = some (.int .i64 (y : Int)) := HOQ.out.cell hy
            have f4 : wq.cell? ⟨w2.heap.size, a, none⟩ = some (.int .i64 (x : Int)) := HOQ.out.cell hx
            have f3 := HOQ.out.warm (by rw [HRE.out.len]) b
            have HO2 := Lib.hid (HOQ.out.set (by rw [HRE.out.len]) b M)
            have HW2 := Lib.hid (HWQ.out.setCell (p := ⟨w2.heap.size, b, none⟩) (Nat.le_refl _) (.int .i64 M))
            clear hx hy
            go_still_tail 16, (by kernel_rfl)
            change wpList _ _ _ _ _ wq.drew
            have f2' : wq.drew.cell? ⟨w2.heap.size, b, none⟩ = some (.int .i64 (y : Int)) := f2
            have f3' : wq.drew.frozen? ⟨w2.heap.size, b, none⟩ = false := f3
            clear f2 f3 f4 hq1 hq2
            go_wp2_with fail
            go_roundw
            case rel => exact ⟨j + 1, _, by omega, by go_num, HMM.out ▸ HLV2.out, HMM.out ▸ HO2.out.drew, HMM.out ▸ below_drew HW2.out⟩
            case measure => simp [intOf]; omega
          · obtain rfl : L.length = j := by omega
            go_wp2_with fail
            go_roundw
            case rel => exact ⟨k + 1, p, by omega, by go_num, HRE.out.round, HO.out, HW.out⟩
            case measure => simp [intOf]; omega
      · obtain rfl : N = k := by omega
        have HP : Hid (LevP (N : Int) (asI L) 0 o) := Or.inr ⟨N, L, HG.out, Or.inr ⟨R, HSO.out, rfl, HRE.out.whole HG.out.ok HAC.out⟩⟩
        have HBZ : Hid (Below w.heap.size w wr) := bstep HB2.out HW.out
        have HOL := Lib.hid HRE.out.len
        go_wp2_with fail
        go_ret2
        exact ⟨_, N, o, 0, by rw [HOL.out]; rfl, by rw [HOL.out]; exact HG.out.le, HP.out, HO.out.cl, HBZ.out⟩
#print axioms ref_Levels
end Go.Proofs.Ytlbknnafecdakaa.Graph
