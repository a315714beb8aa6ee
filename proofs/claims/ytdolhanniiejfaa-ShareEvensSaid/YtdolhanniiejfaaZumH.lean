/- Contracts of num.Sum and of Sum of the reference. -/
import Derived.Test.YtdolhanniiejfaaZumG
namespace Go.Proofs.Ytdolhanniiejfaa.Num
open Go.ChangeShapes Go.WideShapes Go.RowKit
set_option linter.unusedVariables false

set_option maxHeartbeats 400000 in
theorem num_sum (zs : List Int) (A : Option Addr) (c : Nat) (w : World) (hS : Holds w w.heap.size A zs) (hlen : zs.length ≤ 9223372036854775807) :
    Calls Try.prog 29 #[.slice A zs.length c] w fun e w' => e = .returned (.tuple #[.int .i64 (sumV zs), .int .i64 (sumE zs)]) ∧ Below w.heap.size w w' := by
  by_cases hl : 65536 < zs.length
  · have hl' : 65536 < (zs.length : Int) := by omega
    go_enter Try.func29, Try.ntmps29
    go_wp2
    go_ret2
    exact ⟨ret_two (sumV_long hl).symm (sumE_long hl).symm, Below.refl _ _⟩
  · have hl' : (zs.length : Int) ≤ 65536 := by omega
    have hl2 : zs.length ≤ 65536 := by omega
    have hd : decide (65536 < (zs.length : Int)) = false := decide_eq_false (by omega)
    have HS := Lib.hid hS
    clear hS hl
    go_enter Try.func29, Try.ntmps29
    go_wp2_with fail
    go_loopw [6, 12] (fun _ i wr => ∃ k : Nat, k ≤ zs.length ∧ i = .int .i64 k ∧ allIn (zs.take k) = true ∧ Two wr w.heap.size 60 (.int .u64 (hiW (tot (zs.take k)))) (.int .u64 (loW (tot (zs.take k)))) ∧ Below w.heap.size w wr ∧ w.heap.size < wr.heap.size) (fun _ i _ => zs.length - (intOf i).toNat)
    case atStart => exact ⟨0, Nat.zero_le _, rfl, rfl, Two.new _ _ _ _, (Below.refl _ _).alloc (Nat.le_refl _) _, by simp⟩
    case round =>
      obtain ⟨k, hk, rfl, ha, hT, hbel, hsz⟩ := hrel
      have hbd := tot_bound _ ha
      have hll : (zs.take k).length ≤ k := List.length_take_le _ _
      have b1 : -85070591730234615865843651857942052864 ≤ tot (zs.take k) := by omega
      have b2 : tot (zs.take k) ≤ 85070591730234615865843651857942052864 := by omega
      have HA := Lib.hid ha
      have HT := Lib.hid hT
      have HB := Lib.hid hbel
      have hc0 := hT.cell0
      have hc1 := hT.cell1
      have hf0 := hT.frozen 0
      have hf1 := hT.frozen 1
      clear ha hT hbel hbd hll
      rcases Nat.lt_or_ge k zs.length with hlt | hge
      · obtain ⟨z, hz⟩ : ∃ z, zs[k]? = some z := ⟨_, List.getElem?_eq_getElem hlt⟩
        obtain ⟨b, off, rfl, hb, hcell⟩ := (HS.out.below HB.out) k z hz
        have HZ := Lib.hid hz
        clear hz
        rcases inB_cases z with ⟨hi, z1, z2⟩ | ⟨hi, nz⟩
        · go_wp2_with fail
          refine (num_in _ _).mono ?_
          rintro e w' ⟨rfl, rfl⟩
          go_wp2_with fail
          refine (num_plus _ _ _ z1 z2).mono ?_
          rintro e w1 ⟨rfl, hb1⟩
          have hT1 := HT.out.below hb1 hsz
          have hs1 : w.heap.size < w1.heap.size := Nat.lt_of_lt_of_le hsz hb1.size
          have g0 := hT1.cell0
          have g1 := hT1.cell1
          have k0 := hT1.frozen 0
          have k1 := hT1.frozen 1
          have HT1 := Lib.hid hT1
          have HB1 := Lib.hid hb1
          clear hT1 hb1 hc0 hc1 hf0 hf1
          go_wp2_with fail
          go_roundw
          case rel =>
            have e := take_snoc_of HZ.out
            have et := tot_snoc (zs.take k) z
            refine ⟨k + 1, by omega, by go_num, by rw [e, allIn_snoc, HA.out, hi]; rfl, by rw [e, et]; exact HT1.out.store _ _, ?_, by simp; exact hs1⟩
            exact ((HB.out.trans (HB1.out.mono (by omega))).setCell (Nat.le_refl _) _).setCell (Nat.le_refl _) _
          case measure => simp [intOf]; omega
        · have NZ := Lib.hid nz
          clear nz
          go_wp2_with fail
          refine (num_in _ _).mono ?_
          rintro e w' ⟨rfl, rfl⟩
          go_wp2_with fail
          go_ret2
          have hno := not_all HZ.out hi
          exact ⟨ret_two (sumV_out hl2 hno).symm (sumE_out hl2 hno).symm, HB.out⟩
      · obtain rfl : k = zs.length := by omega
        have hall : allIn zs = true := by have := HA.out; rwa [List.take_length] at this
        have HALL := Lib.hid hall
        clear hall
        have hT' := HT.out
        rw [List.take_length] at hT' b1 b2
        have hd0 := hT'.cell0
        have hd1 := hT'.cell1
        clear hc0 hc1 hT'
        go_wp2_with fail
        refine (num_narrow _ _ b1 b2).mono ?_
        rintro e w1 ⟨rfl, hb1⟩
        go_wp2_with fail
        go_ret2
        exact ⟨ret_two (sumV_all hl2 HALL.out).symm (sumE_all hl2 HALL.out).symm, HB.out.trans (hb1.mono (by omega))⟩
#print axioms num_sum
end Go.Proofs.Ytdolhanniiejfaa.Num
