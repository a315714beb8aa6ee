/- Several texts in one: NatV2, NatV3, NatV4, NatV5, NatW5, NatX, NatX2, NatX3. -/
import Derived.Test.YtagjimdplmimoaaGreatPk10
/- The contract of nat.takeOff: the walk. -/
namespace Go.Proofs.YtagjimdplmimoaaGreat
open Go.ChangeShapes Go.WideShapes Go.RowKit
set_option linter.unusedVariables false
set_option maxRecDepth 100000

theorem Only.drewN {g : Nat} {a w : World} (h : Only g a w) (n : Nat) : Only g a (w.drewN n) := h.trans ⟨rfl, rfl, rfl, rfl, fun _ _ => rfl⟩

theorem laid_laid {Z D E : List Int} {off : Nat} (h : off + D.length ≤ Z.length) (he : E.length = D.length) : laid (laid Z off D) off E = laid Z off E := by
  have h1 : (laid Z off D).take off = Z.take off := by
    unfold laid; rw [List.take_left' (by rw [List.length_take]; omega)]
  have h2 : (laid Z off D).drop (off + D.length) = Z.drop (off + D.length) := by
    unfold laid
    rw [← List.append_assoc, List.drop_left' (by rw [List.length_append, List.length_take]; omega)]
  unfold laid at h1 h2 ⊢
  rw [he, h1, h2]
theorem add_call (Z T ys : List Int) (l g off c c2 lo hi : Nat) (B : Option Addr) (w : World) (n : Int) (hR : Row w g Z) (hZ : off + (l + 2) ≤ Z.length) (hS : ∀ j, j < l + 2 → Z[off + j]? = T[j]?) (hB : Holds w lo hi B ys) (hg : g < lo ∨ hi ≤ g)
    (hT : T.length = l + 2) (hly : ys.length = l + 1) (hl1 : l ≤ 1000) (hd : lok T.dropLast = true) (hyk : lok ys = true) (hz : ∀ z, T[l + 1]? = some z → -4000000000000000000 < z ∧ z < 4000000000000000000) (n1 : -1000000000 < n) (n2 : n < 1000000000) :
    Calls Tryz.prog 95 #[.slice (some ⟨g, off, none⟩) (l + 2) c, .slice B (l + 1) c2, .int .i64 n] w
      fun e w' => e = .returned (.tuple #[]) ∧ Row w' g (laid Z off (addT T ys n 0)) ∧ Only g w w' := by
  have h := nat_addTimes Z T ys n g off c c2 lo hi B w hR (by rw [hT]; exact hZ) (fun j hj => hS j (by omega)) hB hg (by omega) (by omega) hd (fun z hz' => hz z (by rw [hT] at hz'; exact hz')) hyk n1 n2
  rw [hT, hly] at h; exact h

set_option maxHeartbeats 3200000 in
theorem nat_takeOff (Z S ys : List Int) (l g off c c2 lo hi : Nat) (B : Option Addr) (w : World) (b1 : Int)
    (hR : Row w g Z) (hZ : off + (l + 2) ≤ Z.length) (hS : ∀ j, j < l + 2 → Z[off + j]? = S[j]?) (hB : Holds w lo hi B ys) (hg : g < lo ∨ hi ≤ g)
    (hl : S.length = l + 2) (hly : ys.length = l + 1) (hl1 : l ≤ 1000) (hSk : lok S = true) (hyk : lok ys = true) (hb : ys[l]? = some b1) (hb0 : 0 < b1) (hlt : nval S < 1000000000 * nval ys) :
    Calls Tryz.prog 105 #[.slice (some ⟨g, off, none⟩) (l + 2) c, .slice B (l + 1) c2] w
      fun e w' => e = .returned (.int .i64 (nval S / nval ys)) ∧ ∃ T, T.length = l + 2 ∧ lok T = true ∧ nval T = nval S % nval ys ∧ Row w' g (laid Z off T) ∧ Only g w w' := by
  obtain ⟨a0, h0⟩ : ∃ a0, S[l]? = some a0 := ⟨_, List.getElem?_eq_getElem (by omega)⟩
  obtain ⟨a1, h1⟩ : ∃ a1, S[l + 1]? = some a1 := ⟨_, List.getElem?_eq_getElem (by omega)⟩
  have hgs := guess_ge hSk hyk hl hly h0 h1 hb hb0 hlt
  have hc0 := hR.cell (i := off + l) (z := a0) (by rw [hS l (by omega), h0])
  have hc1 := hR.cell (i := off + (l + 1)) (z := a1) (by rw [hS (l + 1) (by omega), h1])
  obtain ⟨b, offb, hBe, _, _, hcb⟩ := hB l b1 hb
  have ab0 := lok_at hSk h0
  have ab1 := lok_at hSk h1
  have bb1 := lok_at hyk hb
  obtain ⟨G, hG⟩ : ∃ G, (a1 * 1000000000 + a0) / b1 = G := ⟨_, rfl⟩
  have hGt : (a1 * 1000000000 + a0).tdiv b1 = G := by rw [Int.tdiv_eq_ediv_of_nonneg (by omega), hG]
  have G0 : 0 ≤ G := by rw [← hG]; exact Int.ediv_nonneg (by omega) (by omega)
  have G1 : G ≤ 999999999999999999 := by
    have h1 : (a1 * 1000000000 + a0) / b1 ≤ a1 * 1000000000 + a0 := Int.ediv_le_self _ (by omega)
    omega
  rw [hG] at hgs
  obtain ⟨N, hN⟩ : ∃ N, min G 999999999 = N := ⟨_, rfl⟩
  rw [hN] at hgs
  have N0 : 0 ≤ N := by omega
  have N1 : N ≤ 999999999 := by omega
  have n0 : ¬ b1 = 0 := by omega
  have n1 : (b1 == 0) = false := beq_false_of_ne n0
  obtain ⟨a00, a01⟩ := ab0
  obtain ⟨a10, a11⟩ := ab1
  obtain ⟨b10, b11⟩ := bb1
  have HR := Lib.hid hR
  have HB := Lib.hid hB
  have HZ := Lib.hid hZ
  have HS := Lib.hid hS
  have HSK := Lib.hid hSk
  have HYK := Lib.hid hyk
  have HL := Lib.hid hl
  have HLY := Lib.hid hly
  have HLT := Lib.hid hlt
  have HGS := Lib.hid hgs
  subst hBe
  clear hR hB hZ hS hSk hyk hl hly hlt hgs h0 h1 hb hG
  go_enter Tryz.func105, Tryz.ntmps105
  go_wp2_with fail
  go_quiet (fail)
  go_wp2_with fail
  refine (add_call Z S ys l g off c c2 lo hi _ (w.drewN nq) (-N) (HR.out.keep rfl) HZ.out HS.out (HB.out.keep fun _ _ _ => rfl) hg HL.out HLY.out hl1 (by rw [List.dropLast_eq_take]; exact lok_take HSK.out _) HYK.out (fun z hz => by have := lok_at HSK.out hz; omega) (by omega) (by omega)).mono ?_
  rintro e w1 ⟨rfl, hr1, ho1⟩
  have HR1 := Lib.hid hr1
  have HO1 := Lib.hid (((Only.refl g w).drewN nq).trans ho1)
  have HT1 := Lib.hid (show (addT S ys (-N) 0).length = l + 2 by rw [addT_length, HL.out])
  have HV1 := Lib.hid (show nval (addT S ys (-N) 0) = nval S - N * nval ys by rw [addT_val _ _ _ _ (by rw [HL.out, HLY.out]; omega), Int.neg_mul]; omega)
  clear hr1 ho1 hc0 hc1 hcb
  go_wp2_with fail
  go_loopw [6] (fun nv wr => ∃ (nn : Int) (T : List Int), nv = .int .i64 nn ∧ nval S / nval ys ≤ nn ∧ 0 ≤ nn ∧ nn ≤ 999999999 ∧ T.length = l + 2 ∧ lok T.dropLast = true ∧ nval T = nval S - nn * nval ys ∧ Row wr g (laid Z off T) ∧ Only g w wr) (fun nv _ => (intOf nv).toNat)
  case atStart => exact ⟨N, _, rfl, HGS.out.1, N0, N1, HT1.out, addT_lok _ _ _ _, HV1.out, HR1.out, HO1.out⟩
  case round =>
    obtain ⟨nn, T, rfl, hq, nn0, nn1, hT, hd, hv, hrow, hon⟩ := hrel
    obtain ⟨z, hz⟩ : ∃ z, T[l + 1]? = some z := ⟨_, List.getElem?_eq_getElem (by omega)⟩
    have hcell := hrow.cell (i := off + (l + 1)) (z := z) (by rw [laid_in (by rw [hT]; exact HZ.out) (by omega)]; exact hz)
    have hst := take_state HSK.out HYK.out HL.out HLY.out HLT.out HGS.out.2.2 hT hd hv hz nn0 nn1
    have HQ := Lib.hid hq
    have HT := Lib.hid hT
    have HD := Lib.hid hd
    have HV := Lib.hid hv
    have HRW := Lib.hid hrow
    have HON := Lib.hid hon
    have HZZ := Lib.hid hz
    obtain ⟨z0, z1, z2⟩ := hst
    clear hq hT hd hv hrow hon hz
    rcases Int.lt_or_le z 0 with hneg | hnn
    · have hlt2 := z2.mp hneg
      have hq1 : nval S / nval ys ≤ nn - 1 := by
        rcases Int.lt_or_le (nval S / nval ys) nn with h | h
        · omega
        · exfalso
          have e : nn = nval S / nval ys := by have := HQ.out; omega
          have := Int.ediv_mul_le (nval S) (show nval ys ≠ 0 by have := HGS.out.2.2; omega)
          rw [← e] at this; omega
      have hq0 : 0 ≤ nn - 1 := by have := HGS.out.2.1; omega
      have HQ1 := Lib.hid hq1
      clear hlt2 hq1 z2
      go_wp2_with fail
      refine (add_call (laid Z off T) T ys l g off c c2 lo hi _ _ 1 HRW.out (by rw [laid_length (by rw [HT.out]; exact HZ.out)]; exact HZ.out) (fun j hj => laid_in (by rw [HT.out]; exact HZ.out) (by rw [HT.out]; exact hj)) (HON.out.holds HB.out hg) hg HT.out HLY.out hl1 HD.out HYK.out (fun z' hz' => by rw [HZZ.out] at hz'; cases hz'; omega) (by omega) (by omega)).mono ?_
      rintro e w2 ⟨rfl, hr2, ho2⟩
      have HR2 := Lib.hid (show Row w2 g (laid Z off (addT T ys 1 0)) by rw [← laid_laid (D := T) (by rw [HT.out]; exact HZ.out) (addT_length _ _ _ _)]; exact hr2)
      have HO2 := Lib.hid (HON.out.trans ho2)
      clear hr2 ho2 hcell
      go_wp2_with fail
      go_roundw
      case rel =>
        refine ⟨nn - 1, _, rfl, HQ1.out, hq0, by omega, by rw [addT_length, HT.out], addT_lok _ _ _ _, ?_, HR2.out, HO2.out⟩
        rw [addT_val _ _ _ _ (by rw [HT.out, HLY.out]; omega), HV.out, Int.sub_mul]; omega
      case measure => simp [intOf]; omega
    · have hge : 0 ≤ nval S - nn * nval ys := by
        rcases Int.lt_or_le (nval S - nn * nval ys) 0 with h | h
        · have := z2.mpr h; omega
        · exact h
      have hqq := quo_of HGS.out.2.2 HQ.out hge
      have HQQ := Lib.hid hqq
      have hz' : decide (z < 0) = false := decide_eq_false (by omega)
      clear hge hqq z2
      go_wp2_with fail
      go_ret
      exact ⟨ret_int HQQ.out.1, T, HT.out, take_last (S := S) HYK.out HLY.out HGS.out.2.2 HT.out HD.out (by rw [HV.out, HQQ.out.2]), by rw [HV.out, HQQ.out.2], HRW.out, HON.out⟩
end Go.Proofs.YtagjimdplmimoaaGreat
/- The contract of nat.divided. -/
namespace Go.Proofs.YtagjimdplmimoaaGreat
open Go.ChangeShapes Go.WideShapes Go.RowKit
set_option linter.unusedVariables false
set_option maxRecDepth 100000

theorem divd_step {Q zs : List Int} {j : Nat} {z r n : Int} (hj : j < Q.length) (hz : zs[j]? = some z) (hn : 0 < n) (hv : nval (Q.drop (j + 1)) * n + r = nval (zs.drop (j + 1))) :
    nval ((Q.set j ((r * 1000000000 + z) / n)).drop j) * n + (r * 1000000000 + z) % n = nval (zs.drop j) := by
  have e1 : (Q.set j ((r * 1000000000 + z) / n))[j]? = some ((r * 1000000000 + z) / n) := List.getElem?_set_self hj
  rw [nval_drop_step e1, nval_drop_step hz, drop_set_above (by omega), ← hv, Int.add_mul, Int.mul_assoc]
  have e := Int.emod_add_mul_ediv (r * 1000000000 + z) n
  rw [Int.mul_comm ((r * 1000000000 + z) / n) n]
  omega
theorem divd_bd {z r n : Int} (hn : 0 < n) (h0 : 0 ≤ r) (h1 : r < n) (z0 : 0 ≤ z) (z1 : z < 1000000000) : 0 ≤ (r * 1000000000 + z) / n ∧ (r * 1000000000 + z) / n < 1000000000 ∧ 0 ≤ (r * 1000000000 + z) % n ∧ (r * 1000000000 + z) % n < n := by
  refine ⟨Int.ediv_nonneg (by omega) (by omega), ?_, Int.emod_nonneg _ (by omega), Int.emod_lt_of_pos _ hn⟩
  rw [Int.ediv_lt_iff_lt_mul hn]
  have : 1000000000 * (r + 1) ≤ 1000000000 * n := Int.mul_le_mul_of_nonneg_left (by omega) (by omega)
  omega
theorem divd_end {V W r n : Int} (hn : 0 < n) (h0 : 0 ≤ r) (h1 : r < n) (h : W * n + r = V) : W = V / n := by
  rw [← h, Int.add_comm, Int.add_mul_ediv_right _ _ (by omega), Int.ediv_eq_zero_of_lt h0 h1, Int.zero_add]

set_option maxHeartbeats 1600000 in
theorem nat_divided (zs : List Int) (A : Option Addr) (c lo hi : Nat) (n : Int) (w : World) (hS : Holds w lo hi A zs) (hh : hi ≤ w.heap.size) (hk : lok zs = true) (hl : zs.length ≤ 100000) (n0 : 0 < n) (n1 : n < 1000000000) :
    Calls Tryz.prog 107 #[.slice A zs.length c, .int .i64 n] w
      fun e w' => e = .returned (.slice (some ⟨w.heap.size, 0, none⟩) zs.length zs.length) ∧ ∃ Q, Q.length = zs.length ∧ lok Q = true ∧ nval Q = nval zs / n ∧ Row w' w.heap.size Q ∧ Below w.heap.size w w' := by
  obtain ⟨i0, hi0, hz0, hz1, hz2⟩ := info_parts info_int
  have HS := Lib.hid hS
  have HK := Lib.hid hk
  have m0 : ¬ n = 0 := by omega
  have m1 : (n == 0) = false := beq_false_of_ne m0
  clear hS hk
  go_enter Tryz.func107, Tryz.ntmps107
  go_wp2_with (first
    | (at_make; refine wpList_make_full _ rfl _ _ 44 rfl w.heap.size 3 i0 (.int .i64 0) 1 Tryz.underlying44 hi0 hz0 hz1 .i64 .i64 _ _ zs.length rfl rfl rfl rfl (by rw [hz2]; omega) (by unfold maxLen; omega) (Nat.le_refl _) ?_; intro w1 hown hgrow; refine Hid.out ?_)
    | fail)
  refine Lib.hid ?_
  have HR0 := Lib.hid (show Row w1 w.heap.size (List.replicate zs.length 0) from row_of_heap (heap_of_made hown))
  have HB0 := Lib.hid (show Below w.heap.size w w1 from (Below.refl _ _).grown hgrow (Nat.le_refl _) (fun k hk => by cases hk))
  clear hown hgrow
  go_wp2_with fail
  go_loopw [6, 14] (fun rv i wr => ∃ (k : Nat) (r : Int) (Q : List Int), k ≤ zs.length ∧ i = .int .i64 k ∧ rv = .int .i64 r ∧ 0 ≤ r ∧ r < n ∧ Q.length = zs.length ∧ lok Q = true ∧ nval (Q.drop (zs.length - k)) * n + r = nval (zs.drop (zs.length - k)) ∧ Row wr w.heap.size Q ∧ Below w.heap.size w wr) (fun _ i _ => zs.length - (intOf i).toNat)
  case atStart => exact ⟨0, 0, _, Nat.zero_le _, rfl, rfl, by omega, n0, by simp, lok_zeros _, by simp [nval], HR0.out, HB0.out⟩
  case round =>
    obtain ⟨k, r, Q, hk, rfl, rfl, r0, r1, hQ, hQk, hQv, hrow, hbel⟩ := hrel
    have HQ := Lib.hid hQ
    have HQK := Lib.hid hQk
    have HQV := Lib.hid hQv
    have HR := Lib.hid hrow
    have HB := Lib.hid hbel
    clear hQ hQk hQv hrow hbel
    rcases Nat.lt_or_ge k zs.length with hlt | hge
    · obtain ⟨j, hj⟩ : ∃ j, j = zs.length - 1 - k := ⟨_, rfl⟩
      obtain ⟨z, hz⟩ : ∃ z, zs[j]? = some z := ⟨_, List.getElem?_eq_getElem (by omega)⟩
      obtain ⟨b, off, rfl, _, _, hcell⟩ := (HS.out.below HB.out hh) j z hz
      have zb := lok_at HK.out hz
      have hb := divd_bd n0 r0 r1 zb.1 zb.2
      have hjQ : j < Q.length := by rw [HQ.out]; omega
      have e1 : zs.length - k = j + 1 := by omega
      have hv := HQV.out
      rw [e1] at hv
      have hst := divd_step hjQ hz n0 hv
      obtain ⟨q, hqe⟩ : ∃ q, q = Q.getD j 0 := ⟨_, rfl⟩
      have hcq := HR.out.cell (i := j) (z := q) (by rw [hqe, List.getD_eq_getElem?_getD, List.getElem?_eq_getElem hjQ]; rfl)
      have hfr := HR.out.frozen j
      obtain ⟨z0, z1⟩ := zb
      have ej : (zs.length : Int) - 1 - k = (j : Int) := by omega
      have hjl : j < zs.length := by omega
      have t0 : (r * 1000000000 + z).tdiv n = (r * 1000000000 + z) / n := Int.tdiv_eq_ediv_of_nonneg (by omega)
      have t1 : (r * 1000000000 + z).tmod n = (r * 1000000000 + z) % n := Int.tmod_eq_emod_of_nonneg (by omega)
      have e2 : zs.length - (k + 1) = j := by omega
      have E2 := Lib.hid e2
      have hw : IntKind.i64.wrap ((r * 1000000000 + z) / n) = (r * 1000000000 + z) / n := wrap_id (by omega) (by omega)
      have HST := Lib.hid hst
      obtain ⟨b0, b1, b2, b3⟩ := hb
      clear hz hj hjQ e1 hv hst hqe e2
      go_wp2_with fail
      go_region_with (fail)
      go_wp2_with fail
      go_roundw
      case rel =>
        refine ⟨k + 1, _, Q.set j ((r * 1000000000 + z) / n), by omega, by go_num, rfl, b2, b3, by rw [List.length_set]; exact HQ.out, lok_set HQK.out _ b0 b1, by rw [E2.out]; exact HST.out, ?_, ?_⟩
        · exact Row.store (w := wr.drew) (HR.out.keep rfl) j _
        · exact (HB.out.drew).setCell (p := ⟨w.heap.size, j, none⟩) (Nat.le_refl _) _
      case measure => simp [intOf]; omega
    · obtain rfl : k = zs.length := by omega
      have hv := HQV.out
      rw [Nat.sub_self, List.drop_zero, List.drop_zero] at hv
      have HV := Lib.hid (divd_end n0 r0 r1 hv)
      clear hv
      go_wp2_with fail
      go_ret
      exact ⟨rfl, Q, HQ.out, HQK.out, HV.out, HR.out, HB.out⟩
end Go.Proofs.YtagjimdplmimoaaGreat
/- Long division: the arithmetic. No walk. -/
namespace Go.Proofs.YtagjimdplmimoaaGreat
open Go.ChangeShapes Go.WideShapes Go.RowKit
set_option linter.unusedVariables false
set_option maxRecDepth 100000

theorem fac_bd {b : Int} (h0 : 0 < b) (h1 : b < 1000000000) : 1 ≤ 1000000000 / (b + 1) ∧ 1000000000 / (b + 1) < 1000000000 ∧ 1000000000 / (b + 1) * (b + 1) ≤ 1000000000 := by
  refine ⟨?_, ?_, Int.ediv_mul_le _ (by omega)⟩
  · rw [Int.le_ediv_iff_mul_le (by omega)]; omega
  · rw [Int.ediv_lt_iff_lt_mul (by omega)]; omega
theorem top_ge {ys : List Int} {l : Nat} {b : Int} (hy : lok ys = true) (hl : ys.length = l + 1) (hb : ys[l]? = some b) (h0 : 0 < b) : 1000000000 ^ l ≤ nval ys ∧ nval ys < (b + 1) * 1000000000 ^ l := by
  have e := nval_top1 hl hb
  have s0 := nval_nonneg (lok_take hy l)
  have s1 := nval_lt (lok_take hy l)
  rw [List.length_take, Nat.min_eq_left (by omega)] at s1
  have p := pow_pos' l
  obtain ⟨P, hP⟩ : ∃ P : Int, P = 1000000000 ^ l := ⟨_, rfl⟩
  rw [← hP] at e s1 p ⊢
  have m : P * 1 ≤ P * b := Int.mul_le_mul_of_nonneg_left (by omega) (Int.le_of_lt p)
  have m2 : (b + 1) * P = P * b + P := by rw [Int.add_mul, Int.one_mul, Int.mul_comm]
  omega
/-- The dividend, times the factor. -/
theorem rest_ok {xs : List Int} {f : Int} (hx : lok xs = true) (f0 : 0 ≤ f) (f1 : f < 1000000000) :
    lok (addT (List.replicate (xs.length + 1) 0) xs f 0) = true ∧ nval (addT (List.replicate (xs.length + 1) 0) xs f 0) = f * nval xs := by
  have hv : nval (addT (List.replicate (xs.length + 1) 0) xs f 0) = f * nval xs := by rw [addT_val _ _ _ _ (by simp), nval_zeros]; omega
  have x0 := nval_nonneg hx
  have x1 := nval_lt hx
  refine ⟨lok_of_dropLast ?_ (addT_lok _ _ _ _) (by rw [hv]; exact Int.mul_nonneg f0 x0) ?_, hv⟩
  · intro h; have := addT_length (List.replicate (xs.length + 1) 0) xs f 0; rw [h] at this; simp at this
  · rw [hv, addT_length, List.length_replicate, Int.pow_succ]
    have : f * nval xs ≤ 999999999 * nval xs := Int.mul_le_mul_of_nonneg_right (by omega) x0
    omega
/-- The divisor, times the factor, has no limb more. -/
theorem divisor_ok {ys D0 : List Int} {l : Nat} {b f : Int} (hy : lok ys = true) (hl : ys.length = l + 1) (hb : ys[l]? = some b) (h0 : 0 < b) (f0 : 1 ≤ f) (hf : f * (b + 1) ≤ 1000000000)
    (hk : lok D0 = true) (hv : nval D0 = f * nval ys) (hD : D0.length = l + 2) :
    (D0.take (l + 1)).length = l + 1 ∧ lok (D0.take (l + 1)) = true ∧ nval (D0.take (l + 1)) = f * nval ys ∧ ∃ d, (D0.take (l + 1))[l]? = some d ∧ 0 < d := by
  have t := top_ge hy hl hb h0
  have hlen : (D0.take (l + 1)).length = l + 1 := by rw [List.length_take]; omega
  have hok := lok_take hk (l + 1)
  have e := nval_append (D0.take (l + 1)) (D0.drop (l + 1))
  rw [List.take_append_drop, hlen, hv] at e
  have s0 := nval_nonneg hok
  have u0 := nval_nonneg (lok_drop hk (l + 1))
  have p := pow_pos' (l + 1)
  have p' := pow_pos' l
  have hlt : f * nval ys < 1000000000 ^ (l + 1) := by
    have m1 : f * nval ys < f * ((b + 1) * 1000000000 ^ l) := Int.mul_lt_mul_of_pos_left t.2 (by omega)
    have m2 : f * (b + 1) * 1000000000 ^ l ≤ 1000000000 * 1000000000 ^ l := Int.mul_le_mul_of_nonneg_right hf (Int.le_of_lt p')
    rw [Int.mul_assoc] at m2
    rw [Int.pow_succ]; omega
  have hz : nval (D0.drop (l + 1)) = 0 := by
    rcases Int.lt_or_eq_of_le u0 with h | h
    · have : (1000000000 : Int) ^ (l + 1) * 1 ≤ 1000000000 ^ (l + 1) * nval (D0.drop (l + 1)) := Int.mul_le_mul_of_nonneg_left (by omega) (Int.le_of_lt p)
      omega
    · exact h.symm
  rw [hz, Int.mul_zero, Int.add_zero] at e
  refine ⟨hlen, hok, e.symm, ?_⟩
  obtain ⟨d, hd⟩ : ∃ d, (D0.take (l + 1))[l]? = some d := ⟨_, List.getElem?_eq_getElem (by omega)⟩
  refine ⟨d, hd, ?_⟩
  have d0 := (lok_at hok hd).1
  rcases Int.lt_or_eq_of_le d0 with h | h
  · exact h
  · exfalso
    have e2 := nval_top1 hlen hd
    have s1 := nval_lt (lok_take hok l)
    rw [List.length_take, Nat.min_eq_left (by omega)] at s1
    rw [← h, Int.mul_zero, Int.add_zero] at e2
    have m : 1 * nval ys ≤ f * nval ys := Int.mul_le_mul_of_nonneg_right f0 (by omega)
    omega

/-- The state of the division with t limbs of the quotient to come. -/
structure DInv (X Dv : Int) (la nq : Nat) (R Q : List Int) (t : Nat) : Prop where
  rl : R.length = la + 1
  rk : lok R = true
  ql : Q.length = nq
  qk : lok Q = true
  val : nval (Q.drop t) * Dv * 1000000000 ^ t + nval R = X
  lt : nval (R.drop t) < Dv
theorem dinv_start {xs ys R0 : List Int} {l nq : Nat} {b f : Int} (hx : lok xs = true) (hy : lok ys = true) (hl : ys.length = l + 1) (hb : ys[l]? = some b) (h0 : 0 < b) (f0 : 1 ≤ f)
    (hR : R0.length = xs.length + 1) (hRk : lok R0 = true) (hRv : nval R0 = f * nval xs) (hn : nq + l = xs.length) : DInv (f * nval xs) (f * nval ys) xs.length nq R0 (List.replicate nq 0) nq := by
  refine ⟨hR, hRk, by simp, lok_zeros _, ?_, ?_⟩
  · rw [List.drop_replicate, nval_zeros, hRv]; simp
  · have e := nval_append (R0.take nq) (R0.drop nq)
    rw [List.take_append_drop, List.length_take, Nat.min_eq_left (by omega), hRv] at e
    have s0 := nval_nonneg (lok_take hRk nq)
    have x1 := nval_lt hx
    have t := top_ge hy hl hb h0
    have p := pow_pos' nq
    have e2 : (1000000000 : Int) ^ xs.length = 1000000000 ^ nq * 1000000000 ^ l := by rw [← hn, Int.pow_add]
    have m1 : f * nval xs < f * (1000000000 ^ nq * 1000000000 ^ l) := by rw [← e2]; exact Int.mul_lt_mul_of_pos_left x1 (by omega)
    have m2 : f * 1000000000 ^ l ≤ f * nval ys := Int.mul_le_mul_of_nonneg_left t.1 (by omega)
    have m3 : (1000000000 : Int) ^ nq * nval (R0.drop nq) < 1000000000 ^ nq * (f * 1000000000 ^ l) := by
      have : f * ((1000000000 : Int) ^ nq * 1000000000 ^ l) = 1000000000 ^ nq * (f * 1000000000 ^ l) := by rw [Int.mul_left_comm]
      omega
    have := Int.lt_of_mul_lt_mul_left m3 (Int.le_of_lt p)
    omega
theorem laid_drop {Z D : List Int} {off : Nat} (h : off ≤ Z.length) : (laid Z off D).drop off = D ++ Z.drop (off + D.length) := by
  unfold laid; rw [List.drop_left' (by rw [List.length_take]; omega)]
theorem dinv_win {X Dv : Int} {la nq l a : Nat} {R Q D : List Int} (h : DInv X Dv la nq R Q (a + 1)) (ha : a + (l + 2) ≤ la + 1) (hD : lok D = true) (hDl : D.length = l + 1) (hDv : nval D = Dv) :
    nval (win R a (l + 2)) < 1000000000 * Dv ∧ nval (R.drop (a + (l + 2))) = 0 := by
  have e1 := nval_drop_getD R a
  have e2 : R.drop a = win R a (l + 2) ++ R.drop (a + (l + 2)) := by unfold win; rw [← List.drop_drop, List.take_append_drop]
  have hw : (win R a (l + 2)).length = l + 2 := win_length (by rw [h.rl]; exact ha)
  have e3 := congrArg nval e2
  rw [nval_append, hw] at e3
  have r0 := lok_getD h.rk a
  have w0 := nval_nonneg (lok_take (lok_drop h.rk a) (l + 2))
  have u0 := nval_nonneg (lok_drop h.rk (a + (l + 2)))
  have hlt := h.lt
  have d1 := nval_lt hD
  rw [hDl, hDv] at d1
  have p := pow_pos' (l + 2)
  have hlt2 : nval (R.drop a) < 1000000000 * Dv := by omega
  have hp := Int.mul_nonneg (Int.le_of_lt p) u0
  refine ⟨by change 0 ≤ nval (win R a (l + 2)) at w0; omega, ?_⟩
  rcases Int.lt_or_eq_of_le u0 with h2 | h2
  · exfalso
    have : (1000000000 : Int) ^ (l + 2) * 1 ≤ 1000000000 ^ (l + 2) * nval (R.drop (a + (l + 2))) := Int.mul_le_mul_of_nonneg_left (by omega) (Int.le_of_lt p)
    have e4 : (1000000000 : Int) ^ (l + 2) = 1000000000 * 1000000000 ^ (l + 1) := by rw [Int.pow_succ, Int.mul_comm]
    change 0 ≤ nval (win R a (l + 2)) at w0
    omega
  · exact h2.symm
theorem dinv_step {X Dv q : Int} {la nq l a : Nat} {R Q T D : List Int} (h : DInv X Dv la nq R Q (a + 1)) (ha : a + (l + 2) ≤ la + 1) (haq : a < nq) (hD : lok D = true) (hDl : D.length = l + 1) (hDv : nval D = Dv) (dpos : 0 < Dv)
    (hq : q = nval (win R a (l + 2)) / Dv) (hT : T.length = l + 2) (hTk : lok T = true) (hTv : nval T = nval (win R a (l + 2)) % Dv) :
    DInv X Dv la nq (laid R a T) (Q.set a q) a ∧ 0 ≤ q ∧ q < 1000000000 := by
  obtain ⟨hw, hz⟩ := dinv_win h ha hD hDl hDv
  have w0 := nval_nonneg (lok_take (lok_drop h.rk a) (l + 2))
  change 0 ≤ nval (win R a (l + 2)) at w0
  have q0 : 0 ≤ q := by rw [hq]; exact Int.ediv_nonneg w0 (Int.le_of_lt dpos)
  have q1 : q < 1000000000 := by rw [hq, Int.ediv_lt_iff_lt_mul dpos]; exact hw
  have hal : a + (l + 2) ≤ R.length := by rw [h.rl]; exact ha
  have eR := win_split hal
  have eR' := laid_split hal hT
  rw [hz, Int.mul_zero, Int.add_zero] at eR eR'
  have eQ : nval ((Q.set a q).drop a) = q + 1000000000 * nval (Q.drop (a + 1)) := by
    rw [nval_drop_step (List.getElem?_set_self (by rw [h.ql]; exact haq)), drop_set_above (by omega)]
  have hem := Int.emod_add_mul_ediv (nval (win R a (l + 2))) Dv
  rw [← hq, ← hTv] at hem
  refine ⟨⟨by rw [laid_length (by rw [hT]; exact hal)]; exact h.rl, laid_lok h.rk hTk, by rw [List.length_set]; exact h.ql, lok_set h.qk _ q0 q1, ?_, ?_⟩, q0, q1⟩
  · have hv := h.val
    rw [eR, ← hem, Int.pow_succ] at hv
    rw [eR', eQ, ← hv]
    obtain ⟨P, hP⟩ : ∃ P : Int, P = 1000000000 ^ a := ⟨_, rfl⟩
    rw [← hP]
    grind
  · rw [laid_drop (by omega), hT, nval_append, hT, hz, Int.mul_zero, Int.add_zero, hTv]
    exact Int.emod_lt_of_pos _ dpos
theorem dinv_end {x y f : Int} {la nq : Nat} {R Q : List Int} (h : DInv (f * x) (f * y) la nq R Q 0) (f0 : 0 < f) : nval Q = x / y ∧ nval R / f = x % y := by
  have hv := h.val
  have hlt := h.lt
  rw [List.drop_zero] at hv hlt
  have r0 := nval_nonneg h.rk
  obtain ⟨q, hq⟩ : ∃ q, q = nval Q := ⟨_, rfl⟩
  obtain ⟨r, hr⟩ : ∃ r, r = nval R := ⟨_, rfl⟩
  rw [← hq, ← hr] at hv ⊢
  rw [← hr] at r0 hlt
  have e : r = f * (x - q * y) := by
    have : q * (f * y) * 1000000000 ^ 0 + r = f * x := hv
    rw [Int.pow_zero, Int.mul_one] at this
    grind
  rw [e] at r0 hlt ⊢
  have a0 : 0 ≤ x - q * y := by
    rcases Int.lt_or_le (x - q * y) 0 with h | h
    · have : f * (x - q * y) ≤ f * (-1) := Int.mul_le_mul_of_nonneg_left (by omega) (Int.le_of_lt f0)
      omega
    · exact h
  have a1 : x - q * y < y := Int.lt_of_mul_lt_mul_left hlt (Int.le_of_lt f0)
  rw [Int.mul_ediv_cancel_left _ (by omega)]
  have hx : x = (x - q * y) + q * y := by omega
  constructor
  · rw [hx, Int.add_mul_ediv_right _ _ (by omega), Int.ediv_eq_zero_of_lt a0 a1]
    have : x - q * y + q * y - q * y = x - q * y := by omega
    omega
  · have h2 : x % y = ((x - q * y) + q * y) % y := by rw [← hx]
    rw [h2, Int.add_mul_emod_self_right, Int.emod_eq_of_lt a0 a1]
end Go.Proofs.YtagjimdplmimoaaGreat
/- The contract of nat.divide of long numbers. -/
namespace Go.Proofs.YtagjimdplmimoaaGreat
open Go.ChangeShapes Go.WideShapes Go.RowKit
set_option linter.unusedVariables false
set_option maxRecDepth 100000

theorem bjoin {w0 w1 w2 : World} (h : Below w0.heap.size w0 w1) (k : Below w1.heap.size w1 w2) : Below w0.heap.size w0 w2 := h.trans (k.mono h.size)

set_option maxHeartbeats 6400000 in
theorem divide_long (xs ys : List Int) (va vb : Value) (w : World) (l : Nat) (bt : Int) (ha : In w va xs) (hb : In w vb ys) (hx : nrm xs = true) (hy : nrm ys = true) (hlx : 2 < xs.length) (hlx2 : xs.length ≤ 1000) (hly : ys.length = l + 1) (hle : l + 1 ≤ xs.length)
    (hbt : ys[l]? = some bt) (hb0 : 0 < bt) :
    Calls Tryz.prog 92 #[va, vb] w (DivRes w xs ys) := by
  obtain ⟨A, c, rfl, hc, hm, hA⟩ := ha
  obtain ⟨B, d, rfl, hd, hn, hB⟩ := hb
  obtain ⟨nq, hnq⟩ : ∃ nq, nq + l = xs.length := ⟨xs.length - l, by omega⟩
  have hxk := nrm_lok hx
  have hyk := nrm_lok hy
  have bb := lok_at hyk hbt
  have fb := fac_bd hb0 bb.2
  obtain ⟨f, hf⟩ : ∃ f, 1000000000 / (bt + 1) = f := ⟨_, rfl⟩
  have hft : (1000000000 : Int).tdiv (bt + 1) = f := by rw [Int.tdiv_eq_ediv_of_nonneg (by omega), hf]
  rw [hf] at fb
  obtain ⟨f0, f1, f2⟩ := fb
  obtain ⟨b, offb, hBe, _, _, hcb⟩ := hB l bt hbt
  have hca : ∀ W, Below w.heap.size w W → Calls Tryz.prog 104 #[.slice A xs.length c, .int .i64 f] W
      fun e w' => e = .returned (.slice (some ⟨W.heap.size, 0, none⟩) (xs.length + 1) (xs.length + 1)) ∧ Row w' W.heap.size (addT (List.replicate (xs.length + 1) 0) xs f 0) ∧ Below W.heap.size W w' :=
    fun W hW => nat_times xs A c f 0 w.heap.size W (hA.below hW (Nat.le_refl _)) hW.size (by omega) hxk (by omega) f1
  have hcb2 : ∀ W, Below w.heap.size w W → Calls Tryz.prog 104 #[.slice B (l + 1) d, .int .i64 f] W
      fun e w' => e = .returned (.slice (some ⟨W.heap.size, 0, none⟩) (l + 2) (l + 2)) ∧ Row w' W.heap.size (addT (List.replicate (l + 2) 0) ys f 0) ∧ Below W.heap.size W w' := by
    intro W hW
    have h := nat_times ys B d f 0 w.heap.size W (hB.below hW (Nat.le_refl _)) hW.size (by omega) hyk (by omega) f1
    rw [hly] at h; exact h
  have HCA := Lib.hid hca
  have HCB := Lib.hid hcb2
  have HXK := Lib.hid hxk
  have HYK := Lib.hid hyk
  have HLY := Lib.hid hly
  have HBT := Lib.hid hbt
  have HNQ := Lib.hid hnq
  have HF2 := Lib.hid f2
  have h1 : decide ((xs.length : Int) < (l : Int) + 1) = false := decide_eq_false (by omega)
  have h2 : decide ((xs.length : Int) ≤ 2) = false := decide_eq_false (by omega)
  have m0 : ¬ bt + 1 = 0 := by omega
  have m1 : (bt + 1 == 0) = false := beq_false_of_ne m0
  have hw0 : Below w.heap.size w w := Below.refl _ _
  have HW0 := Lib.hid hw0
  have hw0 := HW0
  rw [hly]
  obtain ⟨b10, b11⟩ := bb
  subst hBe
  clear hA hB hm hn hx hy hxk hyk hca hcb2 hly hbt hf hnq f2
  go_enter Tryz.func92, Tryz.ntmps92
  go_wp2_with fail
  go_region_with (go_at_call 104; first | (with_reducible refine (HCA.out _ HW0.out.drew).mono ?_; rintro e w1 ⟨rfl, hr1, hb1⟩) | (with_reducible refine (HCB.out _ (bjoin HW0.out.drew hb1)).mono ?_; rintro e w2 ⟨rfl, hr2, hb2⟩))
  have HR1 := Lib.hid (show Row w1 w.heap.size (addT (List.replicate (xs.length + 1) 0) xs f 0) from hr1)
  have HR2 := Lib.hid (show Row w2 w1.heap.size (addT (List.replicate (l + 2) 0) ys f 0) from hr2)
  have HB1 := Lib.hid (show Below w.heap.size w w1 from hw0.out.drew.trans hb1)
  have HB2 := Lib.hid (show Below w1.heap.size w1 w2 from hb2)
  clear hr1 hr2 hb1 hb2
  obtain ⟨R0, hR0⟩ : ∃ R0, R0 = addT (List.replicate (xs.length + 1) 0) xs f 0 := ⟨_, rfl⟩
  obtain ⟨D0, hD0⟩ : ∃ D0, D0 = addT (List.replicate (l + 2) 0) ys f 0 := ⟨_, rfl⟩
  rw [← hR0] at HR1
  rw [← hD0] at HR2
  have hrok := rest_ok HXK.out (by omega) f1
  have hdok := rest_ok HYK.out (by omega) f1
  rw [HLY.out] at hdok
  rw [← hR0] at hrok
  have hdok' : lok D0 = true ∧ nval D0 = f * nval ys := by rw [hD0]; exact hdok
  have hRl : R0.length = xs.length + 1 := by rw [hR0, addT_length]; simp
  have hDl : D0.length = l + 2 := by rw [hD0, addT_length]; simp
  have hdv := divisor_ok HYK.out HLY.out HBT.out hb0 f0 HF2.out hdok'.1 hdok'.2 hDl
  obtain ⟨hv1, hv2, hv3, dt, hv4, hv5⟩ := hdv
  have ypos : 0 < f * nval ys := Int.mul_pos (by omega) (by have := (top_ge HYK.out HLY.out HBT.out hb0).1; have := pow_pos' l; omega)
  have hds := dinv_start HXK.out HYK.out HLY.out HBT.out hb0 f0 hRl hrok.1 hrok.2 HNQ.out
  have i12 : w.heap.size < w1.heap.size := HR1.out.lt
  have i23 : w1.heap.size < w2.heap.size := HR2.out.lt
  have HR1' := Lib.hid (HR1.out.below HB2.out i12)
  have HB02 := Lib.hid (bjoin HB1.out HB2.out)
  have HDS := Lib.hid hds
  have V1 := Lib.hid hv1
  have V2 := Lib.hid hv2
  have V3 := Lib.hid hv3
  have V4 := Lib.hid hv4
  have V5 := Lib.hid hv5
  have YP := Lib.hid ypos
  have I12 := Lib.hid i12
  have I23 := Lib.hid i23
  have HRL := Lib.hid hRl
  have hnql : (xs.length : Int) - ((l : Int) + 1) + 1 = (nq : Int) := by have := HNQ.out; omega
  have hnq1 : nq ≤ 1000 := by have := HNQ.out; omega
  obtain ⟨i0, hi0, hz0, hz1, hz2⟩ := info_parts info_int
  clear hR0 hD0 hrok hdok hdok' hRl hDl hv1 hv2 hv3 hv4 hv5 ypos hds i12 i23 hcb hw0
  go_wp2_with (first
    | (at_make; refine wpList_make_full _ rfl _ _ 44 rfl w2.heap.size 3 i0 (.int .i64 0) 1 Tryz.underlying44 hi0 hz0 hz1 .i64 .i64 _ _ nq rfl rfl (by omega) (by omega) (by rw [hz2]; omega) (by unfold maxLen; omega) (Nat.le_refl _) ?_; intro w3 hown hgrow; refine Hid.out ?_)
    | fail)
  refine Lib.hid ?_
  have HQ0 := Lib.hid (show Row w3 w2.heap.size (List.replicate nq 0) from row_of_heap (heap_of_made hown))
  have hb3 : Below w2.heap.size w2 w3 := (Below.refl _ _).grown hgrow (Nat.le_refl _) (fun k hk => by cases hk)
  have HR13 := Lib.hid (HR1'.out.below hb3 (Nat.lt_trans I12.out I23.out))
  have HR23 := Lib.hid (HR2.out.below hb3 I23.out)
  have HB03 := Lib.hid (bjoin HB02.out hb3)
  clear hown hgrow hb3 hnql
  go_wp2_with fail
  go_loopw [62] (fun iv wr => ∃ (k : Nat) (R Q : List Int), k ≤ nq ∧ iv = .int .i64 k ∧ DInv (f * nval xs) (f * nval ys) xs.length nq R Q (nq - k) ∧ Row wr w.heap.size R ∧ Row wr w1.heap.size D0 ∧ Row wr w2.heap.size Q ∧ Below w.heap.size w wr) (fun iv _ => nq - (intOf iv).toNat)
  case atStart => exact ⟨0, R0, _, Nat.zero_le _, rfl, HDS.out, HR13.out, HR23.out, HQ0.out, HB03.out⟩
  case round =>
    obtain ⟨k, R, Q, hk, rfl, hinv, hrr, hrd, hrq, hbel⟩ := hrel
    have HI := Lib.hid hinv
    have HRR := Lib.hid hrr
    have HRD := Lib.hid hrd
    have HRQ := Lib.hid hrq
    have HBL := Lib.hid hbel
    have hql := hinv.ql
    have hrl := hinv.rl
    clear hinv hrr hrd hrq hbel
    rcases Nat.lt_or_ge k nq with hlt | hge
    · obtain ⟨a, hae⟩ : ∃ a, a = nq - 1 - k := ⟨_, rfl⟩
      have ea : nq - k = a + 1 := by omega
      have hi := HI.out
      rw [ea] at hi
      have haq : a < nq := by omega
      have hal : a + (l + 2) ≤ xs.length + 1 := by have := HNQ.out; omega
      have hwin := dinv_win hi hal V2.out V1.out V3.out
      have hwl : (win R a (l + 2)).length = l + 2 := win_length (by rw [hrl]; exact hal)
      have hto := fun (W : World) (cap : Nat) (hr : Row W w.heap.size R) (hd : Row W w1.heap.size D0) =>
        nat_takeOff R (win R a (l + 2)) (D0.take (l + 1)) l w.heap.size a cap (l + 2) w1.heap.size (w1.heap.size + 1) (some ⟨w1.heap.size, 0, none⟩) W dt hr (by rw [hrl]; exact hal) (fun j hj => win_at (by rw [hrl]; exact hal) j hj)
          ((hd.take (l + 1)).holds (fun k z hz => by rw [Nat.zero_add]; exact hz) (Nat.le_refl _) (Nat.lt_succ_self _)) (Or.inl I12.out) hwl V1.out (by omega) (lok_take (lok_drop hi.rk a) _) V2.out V4.out V5.out (by rw [V3.out]; exact hwin.1)
      obtain ⟨S, hS⟩ : ∃ S, S = win R a (l + 2) := ⟨_, rfl⟩
      rw [V3.out, ← hS] at hto
      have HTO := Lib.hid hto
      have HS := Lib.hid hS
      have HI2 := Lib.hid hi
      have HE := Lib.hid hae
      obtain ⟨qv, hqv⟩ : ∃ qv, qv = Q.getD a 0 := ⟨_, rfl⟩
      have HQV := Lib.hid hqv
      have HQL := Lib.hid hql
      have HRL2 := Lib.hid hrl
      have e1 : (nq : Int) - 1 - k = (a : Int) := by omega
      have k1 : (a : Int) ≤ (a : Int) + ((l : Int) + 1) + 1 := by omega
      have k2 : (a : Int) + ((l : Int) + 1) + 1 ≤ (xs.length : Int) + 1 := by omega
      have k3 : ¬ xs.length + 1 = a := by omega
      have k4 : ((a : Int) + ((l : Int) + 1) + 1).toNat - a = l + 2 := by omega
      clear hae ea hi hwin hwl hto hS hqv hql hrl
      go_wp2_with fail
      refine (HTO.out wr _ HRR.out HRD.out).mono ?_
      rintro e w4 ⟨rfl, T, hT, hTk, hTv, hr4, ho4⟩
      have hstep := dinv_step HI2.out hal haq V2.out V1.out V3.out YP.out (by rw [← HS.out]) hT hTk (by rw [← HS.out]; exact hTv)
      obtain ⟨qn, hqn⟩ : ∃ qn, qn = nval S / (f * nval ys) := ⟨_, rfl⟩
      rw [← hqn] at hstep ⊢
      have hrd4 : Row w4 w1.heap.size D0 := ho4.row HRD.out (by have := I12.out; omega)
      have hrq4 : Row w4 w2.heap.size Q := ho4.row HRQ.out (by have := I12.out; have := I23.out; omega)
      have hcell := hrq4.cell (i := a) (z := qv) (by rw [HQV.out, List.getD_eq_getElem?_getD, List.getElem?_eq_getElem (by rw [HQL.out]; exact haq)]; rfl)
      have hfr := hrq4.frozen a
      have HST := Lib.hid hstep.1
      have HRR5 := Lib.hid (hr4.other (p := ⟨w2.heap.size, a, none⟩) (by show w2.heap.size ≠ w.heap.size; have := I12.out; have := I23.out; omega) (.int .i64 qn))
      have HRD5 := Lib.hid (hrd4.other (p := ⟨w2.heap.size, a, none⟩) (by show w2.heap.size ≠ w1.heap.size; have := I23.out; omega) (.int .i64 qn))
      have HRQ5 := Lib.hid (hrq4.store a qn)
      have HBL5 := Lib.hid ((HBL.out.trans (ho4.toBelow (Nat.le_refl _))).setCell (p := ⟨w2.heap.size, a, none⟩) (by show w.heap.size ≤ w2.heap.size; have := I12.out; have := I23.out; omega) (.int .i64 qn))
      have q0 := hstep.2.1
      have q1 := hstep.2.2
      clear hT hTk hTv hr4 ho4 hstep hrd4 hrq4 hqn
      go_wp2_with fail
      go_roundw
      case rel =>
        have e2 : nq - (k + 1) = a := by have := HE.out; omega
        exact ⟨k + 1, _, _, by omega, by go_num, by rw [e2]; exact HST.out, HRR5.out, HRD5.out, HRQ5.out, HBL5.out⟩
      case measure => simp [intOf]; omega
    · obtain rfl : k = nq := by omega
      have hi := HI.out
      rw [Nat.sub_self] at hi
      have hend := dinv_end hi (by omega)
      have hQk := hi.qk
      have hRk := hi.rk
      have i03 : w.heap.size ≤ w2.heap.size := by have := I12.out; have := I23.out; omega
      have htr := nat_trimmed Q (some ⟨w2.heap.size, 0, none⟩) k w2.heap.size wr.heap.size wr (HRQ.out.holds (fun k z hz => by rw [Nat.zero_add]; exact hz) (Nat.le_refl _) HRQ.out.lt) (by omega) (by unfold maxLen; omega)
      rw [hql] at htr
      have hdd := nat_divided R (some ⟨w.heap.size, 0, none⟩) (xs.length + 1) w.heap.size wr.heap.size f wr (HRR.out.holds (fun k z hz => by rw [Nat.zero_add]; exact hz) (Nat.le_refl _) HRR.out.lt) (Nat.le_refl _) hRk (by omega) (by omega) f1
      rw [hrl] at hdd
      have hsq : Sl wr w.heap.size wr.heap.size (.slice (some ⟨w2.heap.size, 0, none⟩) (trimL Q).length k) (limbs ((nval xs).toNat / (nval ys).toNat)) := by
        have e : limbs ((nval xs).toNat / (nval ys).toNat) = trimL Q := by
          rw [trimL_limbs hQk, hend.1]
          congr 1
          have x0 := nval_nonneg HXK.out
          have y0 := nval_nonneg HYK.out
          have e1 : nval xs = ((nval xs).toNat : Int) := by omega
          have e2 : nval ys = ((nval ys).toNat : Int) := by omega
          rw [e1, e2]; exact (Int.toNat_natCast _).symm
        rw [e]
        have := trimL_len_le Q
        exact ⟨_, k, rfl, by omega, by unfold maxLen; omega, by rw [← trimL_eq_take Q]; exact (HRQ.out.take _).holds (fun k z hz => by rw [Nat.zero_add]; exact hz) i03 HRQ.out.lt⟩
      have HTR := Lib.hid htr
      have HDD := Lib.hid hdd
      have HSQ := Lib.hid hsq
      have HEND := Lib.hid hend.2
      clear hi hend hQk hRk i03 htr hdd hsq
      go_wp2_with fail
      refine HTR.out.mono ?_
      rintro e w4 ⟨rfl, rfl⟩
      go_wp2_with fail
      refine HDD.out.mono ?_
      rintro e w5 ⟨rfl, Q2, hQ2, hQ2k, hQ2v, hrow, hb5⟩
      have htr2 := nat_trimmed Q2 (some ⟨wr.heap.size, 0, none⟩) (xs.length + 1) wr.heap.size w5.heap.size w5 (hrow.holds (fun k z hz => by rw [Nat.zero_add]; exact hz) (Nat.le_refl _) hrow.lt) (by omega) (by unfold maxLen; omega)
      rw [hQ2] at htr2
      have hsr : Sl w5 w.heap.size w5.heap.size (.slice (some ⟨wr.heap.size, 0, none⟩) (trimL Q2).length (xs.length + 1)) (limbs ((nval xs).toNat % (nval ys).toNat)) := by
        have e : limbs ((nval xs).toNat % (nval ys).toNat) = trimL Q2 := by
          rw [trimL_limbs hQ2k, hQ2v, HEND.out]
          congr 1
          have x0 := nval_nonneg HXK.out
          have y0 := nval_nonneg HYK.out
          have e1 : nval xs = ((nval xs).toNat : Int) := by omega
          have e2 : nval ys = ((nval ys).toNat : Int) := by omega
          rw [e1, e2]; exact (Int.toNat_natCast _).symm
        rw [e]
        have := trimL_len_le Q2
        exact ⟨_, _, rfl, by omega, by unfold maxLen; omega, by rw [← trimL_eq_take Q2]; exact (hrow.take _).holds (fun k z hz => by rw [Nat.zero_add]; exact hz) HBL.out.size hrow.lt⟩
      have HTR2 := Lib.hid htr2
      have HSR := Lib.hid hsr
      have HSQ5 := Lib.hid ((HSQ.out.below hb5 (Nat.le_refl _)).more (Nat.le_refl _) hb5.size)
      have HB5 := Lib.hid (bjoin HBL.out hb5)
      clear hQ2 hQ2k hQ2v hrow hb5 htr2 hsr
      go_wp2_with fail
      refine HTR2.out.mono ?_
      rintro e w6 ⟨rfl, rfl⟩
      go_wp2_with fail
      go_ret2
      exact ⟨_, _, rfl, HSQ5.out, HSR.out, HB5.out⟩
end Go.Proofs.YtagjimdplmimoaaGreat
/- The contract of nat.DivMod; the walk of NatDivides. -/
namespace Go.Proofs.YtagjimdplmimoaaGreat
open Go.ChangeShapes Go.WideShapes Go.RowKit
set_option linter.unusedVariables false
set_option maxRecDepth 100000

theorem top_pos {ys : List Int} {l : Nat} {b : Int} (hy : nrm ys = true) (hl : ys.length = l + 1) (hb : ys[l]? = some b) : 0 < b := by
  have h := nrm_lok hy
  have b0 := lok_at h hb
  rcases Int.lt_or_eq_of_le b0.1 with h1 | h1
  · exact h1
  · exfalso
    subst h1
    have : ys.getLast? = some 0 := by rw [List.getLast?_eq_getElem?, hl]; exact hb
    simp [nrm, this] at hy
theorem nat_divide (xs ys : List Int) (va vb : Value) (w : World) (ha : In w va xs) (hb : In w vb ys) (hx : nrm xs = true) (hy : nrm ys = true) (hlx : xs.length ≤ 1000) (hp : 0 < ys.length) :
    Calls Tryz.prog 92 #[va, vb] w (DivRes w xs ys) := by
  rcases Nat.lt_or_ge xs.length ys.length with h | h
  · exact divide_less xs ys va vb w ha hb hx hy (by omega) h
  · rcases Nat.lt_or_ge 2 xs.length with h2 | h2
    · obtain ⟨l, hl⟩ : ∃ l, ys.length = l + 1 := ⟨ys.length - 1, by omega⟩
      obtain ⟨b, hb'⟩ : ∃ b, ys[l]? = some b := ⟨_, List.getElem?_eq_getElem (by omega)⟩
      exact divide_long xs ys va vb w l b ha hb hx hy h2 hlx hl (by omega) hb' (top_pos hy hl hb')
    · exact divide_two xs ys va vb w ha hb hx hy h2 hp h
theorem nat_DivMod (xs ys : List Int) (va vb : Value) (w : World) (ha : In w va xs) (hb : In w vb ys) :
    Calls Tryz.prog 68 #[va, vb] w (DmRes w xs ys) :=
  DivMod_of xs ys va vb w ha hb fun h1 h2 h3 => nat_divide xs ys va vb w ha hb (valid_nrm h1) (valid_nrm h2) (by have := valid_len h1; omega) h3

theorem valid_lt {xs : List Int} (h : validB xs = true) : (nval xs).toNat < 1000000000 ^ 48 := limbs_len_le.mp (by rw [← nrm_limbs (valid_nrm h)]; exact valid_len h)
theorem valid_limbs {n : Nat} (h : n < 1000000000 ^ 48) : validB (limbs n) = true := validB_iff.mpr ⟨limbs_len_le.mpr h, nrm_of_limbs _⟩
theorem fit_ok {n : Nat} (h : n < 1000000000 ^ 48) : fitN n = n ∧ fitE n = 0 := ⟨if_pos h, if_pos h⟩

/-- What the law's calls return, of valid numbers, the second not zero. -/
theorem dvd_facts {xs ys : List Int} (hx : validB xs = true) (hy : validB ys = true) (hp : 0 < ys.length) :
    divE xs ys = 0 ∧ mulV (limbs (quoN xs ys)) ys = quoN xs ys * (nval ys).toNat ∧ mulE (limbs (quoN xs ys)) ys = 0 ∧ mulV ys (limbs (quoN xs ys)) = quoN xs ys * (nval ys).toNat ∧ mulE ys (limbs (quoN xs ys)) = 0 ∧
    limbs (addV (limbs (quoN xs ys * (nval ys).toNat)) (limbs (remN xs ys))) = xs ∧ addE (limbs (quoN xs ys * (nval ys).toNat)) (limbs (remN xs ys)) = 0 ∧
    cmpV (limbs (remN xs ys)) ys = -1 ∧ formE (limbs (remN xs ys)) ys = 0 := by
  have he : ys.isEmpty = false := by cases ys with
    | nil => simp at hp
    | cons a l => rfl
  have hb : both xs ys = true := by rw [both, hx, hy]; rfl
  have hok : divOk xs ys = true := by rw [divOk, hb, he]; rfl
  have eq : quoN xs ys = (nval xs).toNat / (nval ys).toNat := by rw [quoN, hok, if_pos rfl]
  have er : remN xs ys = (nval xs).toNat % (nval ys).toNat := by rw [remN, hok, if_pos rfl]
  have yp := nval_pos (valid_nrm hy) hp
  have x0 := nval_nonneg (valid_lok hx)
  have hxl := valid_lt hx
  have hyl := valid_lt hy
  have M0 : 0 < (nval ys).toNat := by omega
  have hq1 : quoN xs ys ≤ (nval xs).toNat := by rw [eq]; exact Nat.div_le_self _ _
  have hqm : quoN xs ys * (nval ys).toNat ≤ (nval xs).toNat := by rw [eq]; exact Nat.div_mul_le_self _ _
  have hr1 : remN xs ys < (nval ys).toNat := by rw [er]; exact Nat.mod_lt _ M0
  have hsum : quoN xs ys * (nval ys).toNat + remN xs ys = (nval xs).toNat := by rw [eq, er, Nat.mul_comm]; exact Nat.div_add_mod _ _
  have vq : validB (limbs (quoN xs ys)) = true := valid_limbs (Nat.lt_of_le_of_lt hq1 hxl)
  have vr : validB (limbs (remN xs ys)) = true := valid_limbs (Nat.lt_trans hr1 hyl)
  have vp : validB (limbs (quoN xs ys * (nval ys).toNat)) = true := valid_limbs (Nat.lt_of_le_of_lt hqm hxl)
  have fp := fit_ok (Nat.lt_of_le_of_lt hqm hxl)
  have ey : nval ys = ((nval ys).toNat : Int) := by omega
  have p1 : (nval (limbs (quoN xs ys)) * nval ys).toNat = quoN xs ys * (nval ys).toNat := by rw [nval_limbs]; conv => lhs; rw [ey, ← Int.natCast_mul, Int.toNat_natCast]
  have p2 : (nval ys * nval (limbs (quoN xs ys))).toNat = quoN xs ys * (nval ys).toNat := by rw [Int.mul_comm]; exact p1
  have p3 : (nval (limbs (quoN xs ys * (nval ys).toNat)) + nval (limbs (remN xs ys))).toNat = (nval xs).toNat := by rw [nval_limbs, nval_limbs]; omega
  have fx := fit_ok hxl
  refine ⟨by rw [divE, hb, he]; rfl, ?_, ?_, ?_, ?_, ?_, ?_, ?_, ?_⟩
  · rw [mulV, both, vq, hy, p1]; exact fp.1
  · rw [mulE, both, vq, hy, p1]; exact fp.2
  · rw [mulV, both, vq, hy, p2]; exact fp.1
  · rw [mulE, both, vq, hy, p2]; exact fp.2
  · rw [addV, both, vp, vr, p3]
    show limbs (fitN (nval xs).toNat) = xs
    rw [fx.1]; exact (nrm_limbs (valid_nrm hx)).symm
  · rw [addE, both, vp, vr, p3]; exact fx.2
  · rw [cmpV, both, vr, hy]
    show cmpI (nval (limbs (remN xs ys))) (nval ys) = -1
    rw [nval_limbs]; exact cmpI_lt (by omega)
  · rw [formE, both, vr, hy]; rfl
/-- Sub undoes Add. -/
theorem undo_facts {xs ys : List Int} (hx : validB xs = true) (hy : validB ys = true) :
    addE xs ys = 2 ∨ (addE xs ys = 0 ∧ subE (limbs (addV xs ys)) ys = 0 ∧ limbs (subV (limbs (addV xs ys)) ys) = xs) := by
  have hb : both xs ys = true := by rw [both, hx, hy]; rfl
  have x0 := nval_nonneg (valid_lok hx)
  have y0 := nval_nonneg (valid_lok hy)
  by_cases h : (nval xs + nval ys).toNat < 1000000000 ^ 48
  · right
    have f := fit_ok h
    have ea : addV xs ys = (nval xs + nval ys).toNat := by rw [addV, hb, if_pos rfl]; exact f.1
    have vt : validB (limbs (addV xs ys)) = true := by rw [ea]; exact valid_limbs h
    have hv : nval (limbs (addV xs ys)) = nval xs + nval ys := by rw [nval_limbs, ea]; omega
    have e1 : (nval xs + nval ys - nval ys).toNat = (nval xs).toNat := by omega
    have fx := fit_ok (valid_lt hx)
    refine ⟨by rw [addE, hb, if_pos rfl]; exact f.2, ?_, ?_⟩
    · rw [subE, both, vt, hy, hv]
      show (if nval xs + nval ys < nval ys then (1 : Int) else fitE (nval xs + nval ys - nval ys).toNat) = 0
      rw [if_neg (by omega), e1]; exact fx.2
    · rw [subV, both, vt, hy, hv]
      show limbs (if nval xs + nval ys < nval ys then 0 else fitN (nval xs + nval ys - nval ys).toNat) = xs
      rw [if_neg (by omega), e1, fx.1]; exact (nrm_limbs (valid_nrm hx)).symm
  · left; rw [addE, hb, if_pos rfl]; exact if_neg h

end Go.Proofs.YtagjimdplmimoaaGreat
/- Contracts of digit and DivMod of the reference. -/
namespace Go.Proofs.YtagjimdplmimoaaGreat
open Go.ChangeShapes Go.WideShapes Go.RowKit
set_option linter.unusedVariables false
set_option maxRecDepth 100000

theorem cmp_le {x y : Int} (h : x ≤ y) : cmpI x y ≤ 0 := by
  rcases Int.lt_or_eq_of_le h with h | h
  · rw [cmpI_lt h]; decide
  · rw [h, cmpI_eq]; decide
theorem prod_len {ys : List Int} {m : Int} (hy : lok ys = true) (hl : ys.length ≤ 100) (m0 : 0 ≤ m) (m1 : m < 1000000000) : (limbs (nval ys * m).toNat).length ≤ 200 := by
  refine limbs_len_le.mpr ?_
  have a := nval_lt hy
  have a0 := nval_nonneg hy
  have h1 : nval ys * m ≤ nval ys * 1000000000 := Int.mul_le_mul_of_nonneg_left (by omega) a0
  have h2 : (1000000000 : Int) ^ (ys.length + 1) ≤ 1000000000 ^ 200 := pow_le_pow' (by omega)
  rw [Int.pow_succ] at h2
  have h3 : nval ys * m < ((1000000000 ^ 200 : Nat) : Int) := by
    rw [Int.natCast_pow]
    have : ((1000000000 : Nat) : Int) = 1000000000 := rfl
    rw [this]
    refine Int.lt_of_le_of_lt h1 (Int.lt_of_lt_of_le ?_ h2)
    exact Int.mul_lt_mul_of_pos_right a (by decide)
  exact (Int.toNat_lt (Int.mul_nonneg a0 m0)).mpr h3

theorem own_lit (w : World) (z : Int) : (w.alloc (.cells #[.int .i64 z] 3)).ownsRow w.heap.size 3 1 (.slice (some ⟨w.heap.size, 0, none⟩) 1 1) ([z] : List Int).length (([z] : List Int).map (Value.int .i64)) :=
  World.ownsRow_lit (base := w.heap.size) (e := 3) (size := 1) w #[.int .i64 z] 1 (Nat.le_refl _) (by unfold maxLen; omega) rfl
/-- The state of the reference's division, t limbs to come. -/
structure RInv (X Y : Int) (Q : List Int) (n : Nat) (xs : List Int) (t : Nat) (r : Nat) : Prop where
  ql : Q.length = n
  qk : lok Q = true
  quo : nval (Q.drop t) = nval (xs.drop t) / Y
  rem : (r : Int) = nval (xs.drop t) % Y
theorem rinv_step {X Y q : Int} {Q xs : List Int} {n a r : Nat} {z : Int} (h : RInv X Y Q n xs (a + 1) r) (hz : xs[a]? = some z) (z0 : 0 ≤ z) (z1 : z < 1000000000) (hk : lok xs = true) (ha : a < n) (yp : 0 < Y)
    (hq : q = (z + 1000000000 * r) / Y) : RInv X Y (Q.set a q) n xs a ((z + 1000000000 * r) % Y).toNat ∧ 0 ≤ q ∧ q < 1000000000 := by
  have r0 : (r : Int) < Y := by rw [h.rem]; exact Int.emod_lt_of_pos _ yp
  have hnn : 0 ≤ z + 1000000000 * (r : Int) := by omega
  have q0 : 0 ≤ q := by rw [hq]; exact Int.ediv_nonneg hnn (Int.le_of_lt yp)
  have q1 : q < 1000000000 := by
    rw [hq, Int.ediv_lt_iff_lt_mul yp]
    have : 1000000000 * ((r : Int) + 1) ≤ 1000000000 * Y := Int.mul_le_mul_of_nonneg_left (by omega) (by omega)
    omega
  have eV : nval (xs.drop a) = (z + 1000000000 * r) + (1000000000 * nval (Q.drop (a + 1))) * Y := by
    rw [nval_drop_step hz]
    have e := Int.emod_add_mul_ediv (nval (xs.drop (a + 1))) Y
    rw [← h.rem, ← h.quo] at e
    rw [← e]
    grind
  have m0 : 0 ≤ (z + 1000000000 * (r : Int)) % Y := Int.emod_nonneg _ (by omega)
  refine ⟨⟨by rw [List.length_set]; exact h.ql, lok_set h.qk _ q0 q1, ?_, ?_⟩, q0, q1⟩
  · rw [nval_drop_step (List.getElem?_set_self (by rw [h.ql]; exact ha)), drop_set_above (by omega), eV, Int.add_mul_ediv_right _ _ (by omega), hq]
  · rw [eV, Int.add_mul_emod_self_right]; omega

/-- The new remainder's list: one limb more, or none. -/
theorem limbs_cons {z : Int} {r : Nat} (z0 : 0 ≤ z) (z1 : z < 1000000000) (h : ¬ (z = 0 ∧ r = 0)) : limbs (z + 1000000000 * r).toNat = z :: limbs r := by
  have e : (z + 1000000000 * (r : Int)).toNat = z.toNat + 1000000000 * r := by omega
  rw [e, limbs_step z0 z1 (by omega)]
theorem last_ne {z : Int} {r : Nat} (z0 : 0 ≤ z) (z1 : z < 1000000000) (h : ¬ (z = 0 ∧ r = 0)) : ∃ y, (z :: limbs r)[(limbs r).length]? = some y ∧ y ≠ 0 := by
  have hn := nrm_of_limbs (z + 1000000000 * r).toNat
  rw [limbs_cons z0 z1 h] at hn
  obtain ⟨y, hy⟩ : ∃ y, (z :: limbs r)[(limbs r).length]? = some y := ⟨_, List.getElem?_eq_getElem (by simp)⟩
  refine ⟨y, hy, ?_⟩
  rintro rfl
  have : (z :: limbs r).getLast? = some 0 := by rw [List.getLast?_eq_getElem?]; simpa using hy
  simp [nrm, this] at hn
end Go.Proofs.YtagjimdplmimoaaGreat
/- The contract of DivMod of the reference. -/
namespace Go.Proofs.YtagjimdplmimoaaGreat
open Go.ChangeShapes Go.WideShapes Go.RowKit
set_option linter.unusedVariables false
set_option maxRecDepth 100000

def DmIn (w : World) (xs ys : List Int) (e : Ending) (w' : World) : Prop :=
  ∃ vq vr, e = .returned (.tuple #[vq, vr, .int .i64 (divE xs ys)]) ∧ In w' vq (limbs (quoN xs ys)) ∧ In w' vr (limbs (remN xs ys)) ∧ Below w.heap.size w w'
theorem DmIn.none {w w' : World} {xs ys : List Int} {k : Int} {e : Ending} (hq : divOk xs ys = false) (hk : divE xs ys = k) (h : e = .returned (.tuple #[.slice none 0 0, .slice none 0 0, .int .i64 k])) (hb : Below w.heap.size w w') : DmIn w xs ys e w' := by
  subst hk h
  refine ⟨_, _, rfl, ?_, ?_, hb⟩
  · rw [quoN, hq]; exact (by show In _ _ (limbs 0); rw [limbs_zero]; exact In.nil _)
  · rw [remN, hq]; exact (by show In _ _ (limbs 0); rw [limbs_zero]; exact In.nil _)
theorem append_prep {wr w5 : World} {z : Int} {L : List Int} {v' : Value} (hown : w5.ownsRow wr.heap.size 3 1 v' ([z] ++ L).length (([z] ++ L).map (Value.int .i64))) (hgrow : (wr.alloc (.cells #[.int .i64 z] 3)).grownBy w5 (some wr.heap.size)) :
    ∃ g cap, v' = .slice (some ⟨g, 0, none⟩) (L.length + 1) cap ∧ wr.heap.size ≤ g ∧ Row w5 g (z :: L) ∧ In w5 v' (z :: L) ∧ Below wr.heap.size wr w5 := by
  have hin := (sl_of_owns hown).toIn
  rcases row_of_owns hown with ⟨_, h⟩ | ⟨g, cap, h1, h2, h3, h4, h5⟩
  · simp at h
  · refine ⟨g, cap, ?_, h2, h5, hin, (below_alloc _ _).grown hgrow (by simp) (fun k hk => by simp at hk; omega)⟩
    rw [h1]; simp

theorem In.setCell {w : World} {g off n c : Nat} {zs : List Int} (h : In w (.slice (some ⟨g, off, none⟩) n c) zs) {p : Addr} (hp : p.block ≠ g) (u : Value) : In (w.setCell p u) (.slice (some ⟨g, off, none⟩) n c) zs := by
  obtain ⟨A, c', e, h1, h2, h3⟩ := h
  cases e
  refine ⟨_, _, rfl, h1, h2, fun k z hz => ?_⟩
  obtain ⟨b, off', hA, hlo, hhi, hc⟩ := h3 k z hz
  cases hA
  exact ⟨g, off, rfl, ⟨Nat.zero_le _, Or.inl rfl⟩, by simpa [World.setCell] using hhi, (World.cell?_of_block (w := w) (a := ⟨g, off + k, none⟩) (Below.heap_setCell w p u g (fun e => hp e.symm))).trans hc⟩
end Go.Proofs.YtagjimdplmimoaaGreat
/- The contract of DivMod of the reference, for every input; the walk of NatQuotients. -/
namespace Go.Proofs.YtagjimdplmimoaaGreat
open Go.ChangeShapes Go.WideShapes Go.RowKit
set_option linter.unusedVariables false
set_option maxRecDepth 100000

end Go.Proofs.YtagjimdplmimoaaGreat
