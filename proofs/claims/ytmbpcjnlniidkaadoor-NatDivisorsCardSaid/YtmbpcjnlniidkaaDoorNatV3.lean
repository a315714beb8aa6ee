/- The contract of nat.divided. -/
import Derived.Test.YtmbpcjnlniidkaaDoorNatV2
namespace Go.Proofs.YtmbpcjnlniidkaaDoor
open Go.ChangeShapes Go.WideShapes Go.RowKit
set_option linter.unusedVariables false

theorem divd_step {Q zs : List Int} {j : Nat} {z r n : Int} (hj : j < Q.length) (hz : zs[j]? = some z) (hn : 0 < n) (hv : nval (Q.drop (j + 1)) * n + r = nval (zs.drop (j + 1))) :
    nval ((Q.set j ((r * 1000000000 + z) / n)).drop j) * n + (r * 1000000000 + z) % n = nval (zs.drop j) := by
  have e1 : (Q.set j ((r * 1000000000 + z) / n))[j]? = some ((r * 1000000000 + z) / n) := List.getElem?_set_self hj
  rw [nval_drop_step e1, nval_drop_step hz, drop_set_above (by omega), ← hv, Int.add_mul, Int.mul_assoc]
  have e := Int.emod_add_mul_ediv (r * 1000000000 + z) n
  rw [Int.mul_comm ((r * 1000000000 + z) / n) n]
  omega
theorem divd_bd {z r n : Int} (hn : 0 < n) (h0 : 0 ≤ r) (h1 : r < n) (z0 : 0 ≤ z) (z1 : z < 1000000000) : 0 ≤ (r * 1000000000 + z) / n ∧ (r * 1000000000 + z) / n < 1000000000 ∧ 0 ≤ (r * 1000000000 + z) % n ∧ (r * 1000000000 + z) % n < n := by
  refine ⟨Int.ediv_nonneg (by omega) (by omega), ?_, Int.emod_nonneg _ (by omega), Int.emod_lt_of_pos _ hn⟩
  rw [Int.ediv_lt_iff_lt_mul hn]
  have : 1000000000 * (r + 1) ≤ 1000000000 * n := Int.mul_le_mul_of_nonneg_left (by omega) (by omega)
  omega
theorem divd_end {V W r n : Int} (hn : 0 < n) (h0 : 0 ≤ r) (h1 : r < n) (h : W * n + r = V) : W = V / n := by
  rw [← h, Int.add_comm, Int.add_mul_ediv_right _ _ (by omega), Int.ediv_eq_zero_of_lt h0 h1, Int.zero_add]

set_option maxHeartbeats 1600000 in
theorem nat_divided (zs : List Int) (A : Option Addr) (c lo hi : Nat) (n : Int) (w : World) (hS : Holds w lo hi A zs) (hh : hi ≤ w.heap.size) (hk : lok zs = true) (hl : zs.length ≤ 100000) (n0 : 0 < n) (n1 : n < 1000000000) :
    Calls Tryd.prog 62 #[.slice A zs.length c, .int .i64 n] w
      fun e w' => e = .returned (.slice (some ⟨w.heap.size, 0, none⟩) zs.length zs.length) ∧ ∃ Q, Q.length = zs.length ∧ lok Q = true ∧ nval Q = nval zs / n ∧ Row w' w.heap.size Q ∧ Below w.heap.size w w' := by
  obtain ⟨i0, hi0, hz0, hz1, hz2⟩ := info_parts info_int
  have HS := Lib.hid hS
  have HK := Lib.hid hk
  have m0 : ¬ n = 0 := by omega
  have m1 : (n == 0) = false := beq_false_of_ne m0
  clear hS hk
  go_enter Tryd.func62, Tryd.ntmps62
  go_wp2_with (first
    | (at_make; refine wpList_make_full _ rfl _ _ 23 rfl w.heap.size 3 i0 (.int .i64 0) 1 Tryd.underlying23 hi0 hz0 hz1 .i64 .i64 _ _ zs.length rfl rfl rfl rfl (by rw [hz2]; omega) (by unfold maxLen; omega) (Nat.le_refl _) ?_; intro w1 hown hgrow; refine Hid.out ?_)
    | fail)
  refine Lib.hid ?_
  have HR0 := Lib.hid (show Row w1 w.heap.size (List.replicate zs.length 0) from row_of_heap (heap_of_made hown))
  have HB0 := Lib.hid (show Below w.heap.size w w1 from (Below.refl _ _).grown hgrow (Nat.le_refl _) (fun k hk => by cases hk))
  clear hown hgrow
  go_wp2_with fail
  go_loopw [6, 14] (fun rv i wr => ∃ (k : Nat) (r : Int) (Q : List Int), k ≤ zs.length ∧ i = .int .i64 k ∧ rv = .int .i64 r ∧ 0 ≤ r ∧ r < n ∧ Q.length = zs.length ∧ lok Q = true ∧ nval (Q.drop (zs.length - k)) * n + r = nval (zs.drop (zs.length - k)) ∧ Row wr w.heap.size Q ∧ Below w.heap.size w wr) (fun _ i _ => zs.length - (intOf i).toNat)
  case atStart => exact ⟨0, 0, _, Nat.zero_le _, rfl, rfl, by omega, n0, by simp, lok_zeros _, by simp [nval], HR0.out, HB0.out⟩
  case round =>
    obtain ⟨k, r, Q, hk, rfl, rfl, r0, r1, hQ, hQk, hQv, hrow, hbel⟩ := hrel
    have HQ := Lib.hid hQ
    have HQK := Lib.hid hQk
    have HQV := Lib.hid hQv
    have HR := Lib.hid hrow
    have HB := Lib.hid hbel
    clear hQ hQk hQv hrow hbel
    rcases Nat.lt_or_ge k zs.length with hlt | hge
    · obtain ⟨j, hj⟩ : ∃ j, j = zs.length - 1 - k := ⟨_, rfl⟩
      obtain ⟨z, hz⟩ : ∃ z, zs[j]? = some z := ⟨_, List.getElem?_eq_getElem (by omega)⟩
      obtain ⟨b, off, rfl, _, _, hcell⟩ := (HS.out.below HB.out hh) j z hz
      have zb := lok_at HK.out hz
      have hb := divd_bd n0 r0 r1 zb.1 zb.2
      have hjQ : j < Q.length := by rw [HQ.out]; omega
      have e1 : zs.length - k = j + 1 := by omega
      have hv := HQV.out
      rw [e1] at hv
      have hst := divd_step hjQ hz n0 hv
      obtain ⟨q, hqe⟩ : ∃ q, q = Q.getD j 0 := ⟨_, rfl⟩
      have hcq := HR.out.cell (i := j) (z := q) (by rw [hqe, List.getD_eq_getElem?_getD, List.getElem?_eq_getElem hjQ]; rfl)
      have hfr := HR.out.frozen j
      obtain ⟨z0, z1⟩ := zb
      have ej : (zs.length : Int) - 1 - k = (j : Int) := by omega
      have hjl : j < zs.length := by omega
      have t0 : (r * 1000000000 + z).tdiv n = (r * 1000000000 + z) / n := Int.tdiv_eq_ediv_of_nonneg (by omega)
      have t1 : (r * 1000000000 + z).tmod n = (r * 1000000000 + z) % n := Int.tmod_eq_emod_of_nonneg (by omega)
      have e2 : zs.length - (k + 1) = j := by omega
      have E2 := Lib.hid e2
      have hw : IntKind.i64.wrap ((r * 1000000000 + z) / n) = (r * 1000000000 + z) / n := wrap_id (by omega) (by omega)
      have HST := Lib.hid hst
      obtain ⟨b0, b1, b2, b3⟩ := hb
      clear hz hj hjQ e1 hv hst hqe e2
      go_wp2_with fail
      go_region_with (fail)
      go_wp2_with fail
      go_roundw
      case rel =>
        refine ⟨k + 1, _, Q.set j ((r * 1000000000 + z) / n), by omega, by go_num, rfl, b2, b3, by rw [List.length_set]; exact HQ.out, lok_set HQK.out _ b0 b1, by rw [E2.out]; exact HST.out, ?_, ?_⟩
        · exact Row.store (w := wr.drew) (HR.out.keep rfl) j _
        · exact (HB.out.drew).setCell (p := ⟨w.heap.size, j, none⟩) (Nat.le_refl _) _
      case measure => simp [intOf]; omega
    · obtain rfl : k = zs.length := by omega
      have hv := HQV.out
      rw [Nat.sub_self, List.drop_zero, List.drop_zero] at hv
      have HV := Lib.hid (divd_end n0 r0 r1 hv)
      clear hv
      go_wp2_with fail
      go_ret
      exact ⟨rfl, Q, HQ.out, HQK.out, HV.out, HR.out, HB.out⟩
#print axioms nat_divided
end Go.Proofs.YtmbpcjnlniidkaaDoor
