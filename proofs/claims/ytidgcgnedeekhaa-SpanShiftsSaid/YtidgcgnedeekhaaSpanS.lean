/- Contract of Move of the reference. -/
import Derived.Test.YtidgcgnedeekhaaSpanL
import Derived.Test.YtidgcgnedeekhaaSpanP
import Derived.Deep.RegionHeld3
namespace Go.Proofs.Ytidgcgnedeekhaa.Span
open Go.ChangeShapes Go.WideShapes Go.RowKit Go.Lib Go.Proofs
set_option linter.unusedVariables false
set_option maxRecDepth 100000

set_option maxHeartbeats 3200000 in
theorem ref_Move (L : List Sp) (n : Int) (A : Option Addr) (c : Nat) (w : World) (ha : Sps w A L) (hm : L.length ≤ 9223372036854775807) :
    Calls Try.prog 30 #[.slice A L.length c, .int .i64 n] w (MovRes L n w) := by
  have HA := Lib.hid ha
  have HCK := Lib.hid (ref_Check L A c w ha hm)
  obtain ⟨i0, hi, hz0, hz1, hz2⟩ := info_parts info_span
  clear ha
  by_cases hz : chkE L = 0
  · have HZ := Lib.hid hz
    have hl := chk_len hz
    rw [hz] at HCK
    clear hz
    go_enter Try.func30, Try.ntmps30
    go_wp2_with fail
    refine HCK.out.mono ?_
    rintro e w1 ⟨rfl, hb0⟩
    have HB0 := Lib.hid hb0
    clear hb0
    go_wp2_with fail
    go_loopw [7, 8] (fun v i wr => ∃ k : Nat, k ≤ L.length ∧ i = .int .i64 k ∧ (∀ (j : Nat) (t : Sp), j < k → L[j]? = some t → ¬ (n < -t.1) ∧ ¬ (17179869184 - t.2 < n)) ∧ Own wr w1.heap.size v (mov (L.take k) n) ∧ Below w1.heap.size w1 wr) (fun _ i _ => L.length - (intOf i).toNat)
    case atStart => exact ⟨0, Nat.zero_le _, rfl, fun j t h => absurd h (by omega), Own.nil _ _, Below.refl _ _⟩
    case round =>
      obtain ⟨k, hk, rfl, hv, hown, hbel⟩ := hrel
      have HV := Lib.hid hv
      have HO := Lib.hid hown
      have HW := Lib.hid hbel
      have HBW : Hid (Below w.heap.size w wr) := bstep HB0.out hbel
      have hsz := hbel.size
      obtain ⟨Av, cap, rfl⟩ := hown.shape
      have hml : (mov (L.take k) n).length = k := by rw [mov_length, List.length_take]; omega
      have HML := Lib.hid hml
      clear hv hown hbel hml
      rcases Nat.lt_or_ge k L.length with hlt | hge
      · obtain ⟨s, hs⟩ := get_lt hlt
        obtain ⟨b, off, rfl, hb, h0, h1⟩ := (HA.out.on HB0.out) k s hs
        have e0 := (HW.out.cell (p := ⟨b, off + k * 2, none⟩) hb).trans h0
        have e1 := (HW.out.cell (p := ⟨b, off + k * 2 + 1, none⟩) hb).trans h1
        obtain ⟨g1, g2, g3⟩ := chk_all HZ.out s (List.mem_of_getElem? hs)
        have HS := Lib.hid hs
        have i1 : (k : Int) < (L.length : Int) := by omega
        have i2 : (0 : Int) ≤ (k : Int) := by omega
        clear hs h0 h1
        by_cases c1 : n < -s.1
        · have HE := Lib.hid (movE_bad HZ.out HS.out (Or.inl c1))
          go_wp2_with fail
          go_ret2
          exact MovRes.err HE.out (by decide) HBW.out
        · have d1 : decide (n < -s.1) = false := decide_eq_false c1
          by_cases c2 : 17179869184 - s.2 < n
          · have HE := Lib.hid (movE_bad HZ.out HS.out (Or.inr c2))
            go_wp2_with fail
            go_ret2
            exact MovRes.err HE.out (by decide) HBW.out
          · have d2 : decide (17179869184 - s.2 < n) = false := decide_eq_false c2
            have HMT := Lib.hid (mov_take n HS.out)
            have HFS := Lib.hid (fits_step HS.out HV.out ⟨c1, c2⟩)
            have HOZ := Lib.hid (World.ownsRow.alloc (show Own wr.drew w1.heap.size _ _ from HO.out.keep fun _ _ _ => rfl) (.cells #[.int .i64 (s.1 + n), .int .i64 (s.2 + n)] 37))
            have HNW := Lib.hid (World.news_of_block (B := wr.heap.size) (heap_alloc_new wr.drew (.cells #[.int .i64 (s.1 + n), .int .i64 (s.2 + n)] 37)))
            have HK1 := Lib.hid (show (mov (L.take k) n).length + 1 ≤ maxLen by rw [HML.out]; unfold maxLen; omega)
            have HK2 := Lib.hid (show ((mov (L.take k) n).length + 1) * 16 ≤ 140737488355328 by rw [HML.out]; omega)
            have HK3 := Lib.hid (show w1.heap.size ≤ (wr.drew.alloc (.cells #[.int .i64 (s.1 + n), .int .i64 (s.2 + n)] 37)).heap.size by simp; omega)
            have HC1' := Lib.hid (one_cells (x := s.1 + n) (y := s.2 + n))
            have HGB := Lib.hid (fun (W : World) (hg : (wr.drew.alloc (.cells #[.int .i64 (s.1 + n), .int .i64 (s.2 + n)] 37)).grownBy W (Value.slice Av (mov (L.take k) n).length cap).ownBlock) => (HW.out.drew.alloc (by simp; omega) (.cells #[.int .i64 (s.1 + n), .int .i64 (s.2 + n)] 37)).grown hg (by simp; omega) HO.out.ge)
            have KA : Hid ((wr.drew.alloc (.cells #[.int .i64 (s.1 + n), .int .i64 (s.2 + n)] 37)).cell? ⟨b, off + k * 2, none⟩ = some (.int .i64 s.1) ∧ (wr.drew.alloc (.cells #[.int .i64 (s.1 + n), .int .i64 (s.2 + n)] 37)).cell? ⟨b, off + k * 2 + 1, none⟩ = some (.int .i64 s.2)) :=
              ⟨((below_alloc wr.drew _).cell (p := ⟨b, off + k * 2, none⟩) (show b < wr.heap.size by omega)).trans e0, ((below_alloc wr.drew _).cell (p := ⟨b, off + k * 2 + 1, none⟩) (show b < wr.heap.size by omega)).trans e1⟩
            have KG : Hid (∀ W : World, (wr.drew.alloc (.cells #[.int .i64 (s.1 + n), .int .i64 (s.2 + n)] 37)).grownBy W (Value.slice Av (mov (L.take k) n).length cap).ownBlock → W.cell? ⟨b, off + k * 2, none⟩ = some (.int .i64 s.1) ∧ W.cell? ⟨b, off + k * 2 + 1, none⟩ = some (.int .i64 s.2)) := fun W hg => by
              have hb' := HO.out.ge
              have hne : some b ≠ (Value.slice Av (mov (L.take k) n).length cap).ownBlock := fun e => by have := hb' b e.symm; omega
              exact ⟨(hg.cell_far ⟨b, off + k * 2, none⟩ (by simp; omega) hne).trans KA.out.1, (hg.cell_far ⟨b, off + k * 2 + 1, none⟩ (by simp; omega) hne).trans KA.out.2⟩
            have w1' : IntKind.i64.wrap (s.1 + n) = s.1 + n := wrap_id (by omega) (by omega)
            have w2' : IntKind.i64.wrap (s.2 + n) = s.2 + n := wrap_id (by omega) (by omega)
            go_wp2_with fail
            go_region_held3 (fun W' => W'.cell? ⟨b, off + k * 2, none⟩ = some (.int .i64 s.1) ∧ W'.cell? ⟨b, off + k * 2 + 1, none⟩ = some (.int .i64 s.2))
              (first | exact ⟨e0, e1⟩ | exact KA.out | exact KG.out _ hgrow)
              ((refine step_append_lies _ (by rfl) (.tmp 38) (.tmp 54) 22 (by rfl) w1.heap.size 37 i0 _ 2 16 Try.underlying22 hi hz0 hz1 hz2 (by rfl) (by decide) (.slice Av (mov (L.take k) n).length cap) (mov (L.take k) n).length (cellsS (mov (L.take k) n)) (by rfl) HOZ.out ⟨wr.heap.size, 0, none⟩ 1 1 [.int .i64 (s.1 + n), .int .i64 (s.2 + n)] (by rfl) (by rfl) HNW.out HC1'.out (by decide) HK1.out HK2.out HK3.out _ rfl ?_; intro g5 cap5 w5 hown hgrow hat hlt5))
            clear w1' w2'
            have HO5 : Hid (Own w5 w1.heap.size (.slice (some ⟨g5, 0, none⟩) ((mov (L.take k) n).length + 1) cap5) (mov (L.take (k + 1)) n)) := by
              rw [HMT.out]
              unfold Own
              rw [List.length_append, cellsS_snoc]; exact hown
            have HB5 := Lib.hid (HGB.out w5 hgrow)
            clear hown hgrow hat
            go_wp2_with fail
            go_roundw
            case rel => exact ⟨k + 1, by omega, by go_num, fun j t hj ht => by have := HFS.out j t hj ht; omega, HO5.out, HB5.out⟩
            case measure => simp [intOf]; omega
      · obtain rfl : k = L.length := by omega
        have HE := Lib.hid (movE_ok HZ.out HV.out)
        have hf := HO.out.inL
        rw [List.take_length] at hf
        have HR := Lib.hid hf
        have HX := Lib.hid (show mov (L.take L.length) n = mov L n by rw [List.take_length])
        clear hf
        go_wp2_with fail
        go_ret2
        exact ⟨.slice Av (mov L n).length cap, by rw [HE.out]; rfl, by rw [movL_ok HE.out]; exact HR.out, HBW.out⟩
  · have hz1 : (chkE L == 0) = false := beq_false_of_ne hz
    have hz2 : (chkE L != 0) = true := by rw [bne, hz1]; rfl
    have HZ := Lib.hid hz
    clear hz
    go_enter Try.func30, Try.ntmps30
    go_wp2_with fail
    refine HCK.out.mono ?_
    rintro e w0 ⟨rfl, hb0⟩
    have HB0 := Lib.hid hb0
    clear hb0
    go_wp2_with fail
    go_ret2
    exact MovRes.err (movE_chk HZ.out) HZ.out HB0.out
#print axioms ref_Move
end Go.Proofs.Ytidgcgnedeekhaa.Span
