/- The contract of Sum of the reference. -/
import Derived.Test.YtekjmkihmegnnaaNumG
namespace Go.Proofs.Ytekjmkihmegnnaa
open Go.ChangeShapes Go.WideShapes Go.RowKit
set_option linter.unusedVariables false

theorem high_out {l : List Int} (hl : l.length ≤ 65536) (h : 134217728 < (tot (l.map th)).natAbs) : tot l < -1125899906842624 ∨ 1125899906842624 < tot l := by
  have h1 := tot_th l
  have h2 := tot_tl_bd l
  omega

set_option maxHeartbeats 400000 in
theorem ref_sum (zs : List Int) (A : Option Addr) (c : Nat) (w : World) (hS : Holds w w.heap.size A zs) (hlen : zs.length ≤ 9223372036854775807) :
    Calls Try.prog 20 #[.slice A zs.length c] w fun e w' => e = .returned (.tuple #[.int .i64 (sumV zs), .int .i64 (sumE zs)]) ∧ w = w' := by
  by_cases hl : 65536 < zs.length
  · have hl' : 65536 < (zs.length : Int) := by omega
    go_enter Try.func20, Try.ntmps20
    go_wp2
    go_ret2
    exact ⟨ret_two (sumV_long hl).symm (sumE_long hl).symm, rfl⟩
  · have hl' : (zs.length : Int) ≤ 65536 := by omega
    have hl2 : zs.length ≤ 65536 := by omega
    have hd : decide (65536 < (zs.length : Int)) = false := decide_eq_false (by omega)
    have HS := Lib.hid hS
    clear hS hl
    go_enter Try.func20, Try.ntmps20
    go_wp2_with fail
    go_loop [4, 5, 6] (fun u v i => ∃ k : Nat, k ≤ zs.length ∧ i = .int .i64 k ∧ allIn (zs.take k) = true ∧ u = .int .i64 (tot ((zs.take k).map th)) ∧ v = .int .i64 (tot ((zs.take k).map tl))) (fun _ _ i => zs.length - (intOf i).toNat)
    case atStart => exact ⟨0, Nat.zero_le _, rfl, rfl, rfl, rfl⟩
    case round =>
      obtain ⟨k, hk, rfl, ha, rfl, rfl⟩ := hrel
      have hbh := tot_th_bd _ ha
      have hbl := tot_tl_bd (zs.take k)
      have hll : (zs.take k).length ≤ k := List.length_take_le _ _
      have b1 : -2199023255552 ≤ tot ((zs.take k).map th) := by omega
      have b2 : tot ((zs.take k).map th) ≤ 2199023255552 := by omega
      have b3 : -2199023255552 ≤ tot ((zs.take k).map tl) := by omega
      have b4 : tot ((zs.take k).map tl) ≤ 2199023255552 := by omega
      obtain ⟨H, hH⟩ : ∃ H, H = tot ((zs.take k).map th) := ⟨_, rfl⟩
      obtain ⟨L, hL⟩ : ∃ L, L = tot ((zs.take k).map tl) := ⟨_, rfl⟩
      rw [← hH] at b1 b2 ⊢
      rw [← hL] at b3 b4 ⊢
      have HH := Lib.hid hH
      have HL := Lib.hid hL
      have HA := Lib.hid ha
      clear ha hH hL hbh hbl hll
      rcases Nat.lt_or_ge k zs.length with hlt | hge
      · obtain ⟨z, hz⟩ : ∃ z, zs[k]? = some z := ⟨_, List.getElem?_eq_getElem hlt⟩
        obtain ⟨b, off, rfl, hb, hcell⟩ := HS.out k z hz
        have HZ := Lib.hid hz
        clear hz
        rcases inB_cases z with ⟨hi, z1, z2⟩ | ⟨hi, nz⟩
        · have t1 := th_bd z1 z2
          have t2 := tl_bd z
          unfold th at t1
          unfold tl at t2
          obtain ⟨t1a, t1b⟩ := t1
          obtain ⟨t2a, t2b⟩ := t2
          go_wp2_with fail
          refine (ref_in _ _).mono ?_
          rintro e w' ⟨rfl, rfl⟩
          go_wp2_with fail
          go_round
          case rel =>
            have e := take_snoc_of HZ.out
            refine ⟨k + 1, by omega, by go_num, by rw [e, allIn_snoc, HA.out, hi]; rfl, ?_, ?_⟩
            · rw [e, List.map_append, List.map_cons, List.map_nil, tot_snoc, ← HH.out]; rfl
            · rw [e, List.map_append, List.map_cons, List.map_nil, tot_snoc, ← HL.out]; rfl
          case measure => simp [intOf]; omega
        · have NZ := Lib.hid nz
          clear nz
          go_wp2_with fail
          refine (ref_in _ _).mono ?_
          rintro e w' ⟨rfl, rfl⟩
          go_wp2_with fail
          go_ret2
          have hno := not_all HZ.out hi
          exact ⟨ret_two (sumV_out hl2 hno).symm (sumE_out hl2 hno).symm, rfl⟩
      · obtain rfl : k = zs.length := by omega
        have hall : allIn zs = true := by have := HA.out; rwa [List.take_length] at this
        have hH2 : H = tot (zs.map th) := by have := HH.out; rwa [List.take_length] at this
        have hL2 : L = tot (zs.map tl) := by have := HL.out; rwa [List.take_length] at this
        have htot : tot zs = H * 33554432 + L := by rw [hH2, hL2]; exact tot_th zs
        have hout : 134217728 < H.natAbs → tot zs < -1125899906842624 ∨ 1125899906842624 < tot zs := by rw [hH2]; exact high_out hl2
        have HALL := Lib.hid hall
        have HT := Lib.hid htot
        have HO := Lib.hid hout
        clear hall hH2 hL2 htot hout
        by_cases hbig : 134217728 < (H.natAbs : Int)
        · go_wp2_with fail
          refine (ref_abs _ _ (by omega) (by omega)).mono ?_
          rintro e w1 ⟨rfl, rfl⟩
          go_wp2_with fail
          go_ret2
          have ho := HO.out (by omega)
          exact ⟨ret_two (by rw [sumV_all hl2 HALL.out, okV_no ho]) (by rw [sumE_all hl2 HALL.out, okE_no ho]), rfl⟩
        · have hsm : (H.natAbs : Int) ≤ 134217728 := by omega
          go_wp2_with fail
          refine (ref_abs _ _ (by omega) (by omega)).mono ?_
          rintro e w1 ⟨rfl, rfl⟩
          go_wp2_with fail
          refine (ref_result _ _).mono ?_
          rintro e w1 ⟨rfl, rfl⟩
          go_wp2_with fail
          go_ret2
          exact ⟨ret_two (by rw [sumV_all hl2 HALL.out, HT.out]) (by rw [sumE_all hl2 HALL.out, HT.out]), rfl⟩
#print axioms ref_sum
end Go.Proofs.Ytekjmkihmegnnaa
