/- The walk of SpanFull. -/
import Derived.Test.YtidgcgnedeekhaaSpanX
namespace Go.Proofs.Ytidgcgnedeekhaa.Span
open Go.ChangeShapes Go.WideShapes Go.RowKit Go.Lib Go.Proofs
set_option linter.unusedVariables false
set_option maxRecDepth 100000

set_option maxHeartbeats 6400000 in
theorem walk_SpanFull (w : World) (n : Int) (wn : (Lit.int .u16 n).wf = true) (m : Int) (wm : (Lit.int .u16 m).wf = true) :
    Calls Try.prog 11 #[.int .u16 n, .int .u16 m] w fun e w' => e = .returned (.bool true) ∧ Below w.heap.size w w' := by
  have bn : 0 ≤ n ∧ n ≤ 65535 := by simpa [Lit.wf, IntKind.min, IntKind.max, IntKind.signed, IntKind.bits] using wn
  have bm : 0 ≤ m ∧ m ≤ 65535 := by simpa [Lit.wf, IntKind.min, IntKind.max, IntKind.signed, IntKind.bits] using wm
  obtain ⟨n1, n2⟩ := bn
  obtain ⟨m1, m2⟩ := bm
  obtain ⟨na, hna⟩ : ∃ na : Nat, n % 257 = (na : Int) := ⟨(n % 257).toNat, by omega⟩
  obtain ⟨nb, hnb⟩ : ∃ nb : Nat, m % 257 = (nb : Int) := ⟨(m % 257).toNat, by omega⟩
  have la : na ≤ 256 := by omega
  have lb : nb ≤ 256 := by omega
  obtain ⟨i0, hi, hz0, hz1, hz2⟩ := info_parts info_span
  clear wn wm
  go_enter Try.func11, Try.ntmps11
  go_wp2_with fail
  go_loopw [5, 7] (fun v i wr => ∃ k : Nat, k ≤ na ∧ i = .int .i64 k ∧ Own wr w.heap.size v (lstA k) ∧ Below w.heap.size w wr) (fun _ i _ => na - (intOf i).toNat)
  case atStart => exact ⟨0, Nat.zero_le _, rfl, Own.nil _ _, Below.refl _ _⟩
  case round =>
    obtain ⟨k, hk, rfl, hown, hbel⟩ := hrel
    have HO := Lib.hid hown
    have HW := Lib.hid hbel
    have hsz := hbel.size
    obtain ⟨Av, cap, rfl⟩ := hown.shape
    have HKL := Lib.hid (lstA_length k)
    clear hown hbel
    rcases Nat.lt_or_ge k na with hlt | hge
    · have HOZ := Lib.hid (World.ownsRow.alloc HO.out (.cells #[.int .i64 (4 * (k : Int)), .int .i64 (4 * (k : Int) + 1)] 37))
      have HNW := Lib.hid (World.news_of_block (heap_alloc_new wr (.cells #[.int .i64 (4 * (k : Int)), .int .i64 (4 * (k : Int) + 1)] 37)))
      have HK1 := Lib.hid (show (lstA k).length + 1 ≤ maxLen by rw [HKL.out]; unfold maxLen; omega)
      have HK2 := Lib.hid (show ((lstA k).length + 1) * 16 ≤ 140737488355328 by rw [HKL.out]; omega)
      have HK3 := Lib.hid (show w.heap.size ≤ (wr.alloc (.cells #[.int .i64 (4 * (k : Int)), .int .i64 (4 * (k : Int) + 1)] 37)).heap.size by simp; omega)
      have HC1' := Lib.hid (one_cells (x := 4 * (k : Int)) (y := 4 * (k : Int) + 1))
      have hkn : (k : Int) < (na : Int) := by omega
      go_wp2_with (at_builtin; refine wpList_append_own _ rfl (.tmp 18) (.tmp 25) 22 rfl w.heap.size 37 i0 _ 2 16 Try.underlying22 hi hz0 hz1 hz2 rfl (by decide) (.slice Av (lstA k).length cap) (lstA k).length (cellsS (lstA k)) rfl HOZ.out ⟨wr.heap.size, 0, none⟩ 1 1 [.int .i64 (4 * (k : Int)), .int .i64 (4 * (k : Int) + 1)] rfl rfl HNW.out HC1'.out HK1.out HK2.out HK3.out ?_; intro v' w5 hown hgrow _; refine Hid.out ?_)
      have HO5 : Hid (Own w5 w.heap.size v' (lstA (k + 1))) := by
        rw [lstA_next]
        unfold Own
        rw [List.length_append, cellsS_snoc]; exact hown
      have HB5 : Hid (Below w.heap.size w w5) := (HW.out.alloc hsz _).grown hgrow (by simp; omega) HO.out.ge
      clear hown hgrow
      refine Lib.hid ?_
      go_wp2_with fail
      go_roundw
      case rel => exact ⟨k + 1, by omega, by go_num, HO5.out, HB5.out⟩
      case measure => simp [intOf]; omega
    · obtain rfl : k = na := by omega
      have hge' : ¬ ((k : Int) < (k : Int)) := by omega
      have HWA := HW
      have HIA0 := Lib.hid HO.out.inL
      go_wp2_with fail
      obtain ⟨wa, rfl⟩ : ∃ wa : World, wa = wr := ⟨_, rfl⟩
      obtain ⟨Aa, rfl⟩ : ∃ Aa, Aa = Av := ⟨_, rfl⟩
      obtain ⟨ca, rfl⟩ : ∃ ca, ca = cap := ⟨_, rfl⟩
      obtain ⟨k1, rfl⟩ : ∃ k1, k1 = k := ⟨_, rfl⟩
      clear HO HW HKL hsz hk hge hge'
      go_loopw [6, 8] (fun v i wr => ∃ k : Nat, k ≤ nb ∧ i = .int .i64 k ∧ Own wr wa.heap.size v (lstB k) ∧ Below wa.heap.size wa wr) (fun _ i _ => nb - (intOf i).toNat)
      case atStart => exact ⟨0, Nat.zero_le _, rfl, Own.nil _ _, Below.refl _ _⟩
      case round =>
        obtain ⟨k, hk, rfl, hown, hbel⟩ := hrel
        have HO := Lib.hid hown
        have HW := Lib.hid hbel
        have hsz := hbel.size
        obtain ⟨Av, cap, rfl⟩ := hown.shape
        have HKL := Lib.hid (lstB_length k)
        clear hown hbel
        rcases Nat.lt_or_ge k nb with hlt | hge
        · have HOZ := Lib.hid (World.ownsRow.alloc HO.out (.cells #[.int .i64 (4 * (k : Int) + 2), .int .i64 (4 * (k : Int) + 3)] 37))
          have HNW := Lib.hid (World.news_of_block (heap_alloc_new wr (.cells #[.int .i64 (4 * (k : Int) + 2), .int .i64 (4 * (k : Int) + 3)] 37)))
          have HK1 := Lib.hid (show (lstB k).length + 1 ≤ maxLen by rw [HKL.out]; unfold maxLen; omega)
          have HK2 := Lib.hid (show ((lstB k).length + 1) * 16 ≤ 140737488355328 by rw [HKL.out]; omega)
          have HK3 := Lib.hid (show wa.heap.size ≤ (wr.alloc (.cells #[.int .i64 (4 * (k : Int) + 2), .int .i64 (4 * (k : Int) + 3)] 37)).heap.size by simp; omega)
          have HC1' := Lib.hid (one_cells (x := 4 * (k : Int) + 2) (y := 4 * (k : Int) + 3))
          have hkn : (k : Int) < (nb : Int) := by omega
          go_wp2_with (at_builtin; refine wpList_append_own _ rfl (.tmp 34) (.tmp 42) 22 rfl wa.heap.size 37 i0 _ 2 16 Try.underlying22 hi hz0 hz1 hz2 rfl (by decide) (.slice Av (lstB k).length cap) (lstB k).length (cellsS (lstB k)) rfl HOZ.out ⟨wr.heap.size, 0, none⟩ 1 1 [.int .i64 (4 * (k : Int) + 2), .int .i64 (4 * (k : Int) + 3)] rfl rfl HNW.out HC1'.out HK1.out HK2.out HK3.out ?_; intro v' w5 hown hgrow _; refine Hid.out ?_)
          have HO5 : Hid (Own w5 wa.heap.size v' (lstB (k + 1))) := by
            rw [lstB_next]
            unfold Own
            rw [List.length_append, cellsS_snoc]; exact hown
          have HB5 : Hid (Below wa.heap.size wa w5) := (HW.out.alloc hsz _).grown hgrow (by simp; omega) HO.out.ge
          clear hown hgrow
          refine Lib.hid ?_
          go_wp2_with fail
          go_roundw
          case rel => exact ⟨k + 1, by omega, by go_num, HO5.out, HB5.out⟩
          case measure => simp [intOf]; omega
        · obtain rfl : k = nb := by omega
          have HBA := Lib.hid (bstep HWA.out HW.out)
          have HIB := Lib.hid HO.out.inL
          have HIA := Lib.hid (HIA0.out.on HW.out)
          have HSA := Lib.hid (HIA.out.sps)
          have HSB := Lib.hid (HIB.out.sps)
          have ea := lstA_length k1
          have eb := lstB_length k
          have ma : (lstA k1).length ≤ 256 := by omega
          have mb : (lstB k).length ≤ 256 := by omega
          have HEA := Lib.hid ea
          have HEB := Lib.hid eb
          have hge' : ¬ ((k : Int) < (k : Int)) := by omega
          clear ea eb
          go_wp2_with fail
          refine (span_Union (lstA k1) (lstB k) Aa Av ca cap wr HSA.out HSB.out (by omega) (by omega)).mono ?_
          intro e w6 h
          obtain ⟨M, E, V, cv, rfl, hmM, hin, ho, hb⟩ := h.outs
          have HO6 := Lib.hid ho
          have HB6 := Lib.hid (bstep HBA.out hb)
          clear h hin ho hb
          by_cases hs : 256 < k1 + k
          · obtain ⟨rfl, rfl⟩ := HO6.out.full (lstA_chk la) (lstB_chk lb) (both_nf k1 k) (by rw [both_total]; exact hs)
            have t1 : (256 : Int) < ((lstA k1).length : Int) + ((lstB k).length : Int) := by rw [HEA.out, HEB.out]; omega
            clear hs
            go_wp2_with fail
            refine (awake _).mono ?_
            rintro e w7 ⟨rfl, hb⟩
            have HB7 := Lib.hid (bstep HB6.out hb)
            clear hb
            go_wp2_with fail
            go_ret
            exact ⟨rfl, HB7.out⟩
          · obtain ⟨rfl, rfl⟩ := HO6.out.fits (lstA_chk la) (lstB_chk lb) (both_nf k1 k) (by rw [both_total]; omega)
            have t1 : decide ((256 : Int) < ((lstA k1).length : Int) + ((lstB k).length : Int)) = false := decide_eq_false (by rw [HEA.out, HEB.out]; omega)
            have t2 : (((both k1 k (k1 + k)).length : Int) == ((lstA k1).length : Int) + ((lstB k).length : Int)) = true := by rw [HEA.out, HEB.out, both_total]; simp
            clear hs
            go_wp2_with fail
            refine (awake _).mono ?_
            rintro e w7 ⟨rfl, hb⟩
            have HB7 := Lib.hid (bstep HB6.out hb)
            clear hb
            go_wp2_with fail
            go_ret
            exact ⟨rfl, HB7.out⟩
#print axioms walk_SpanFull
end Go.Proofs.Ytidgcgnedeekhaa.Span
