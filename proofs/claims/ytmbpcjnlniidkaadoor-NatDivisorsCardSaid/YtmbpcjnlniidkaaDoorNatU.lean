/- Contracts of times and Mul of the reference. -/
import Derived.Test.YtmbpcjnlniidkaaDoorNatT
namespace Go.Proofs.YtmbpcjnlniidkaaDoor
open Go.ChangeShapes Go.WideShapes Go.RowKit
set_option linter.unusedVariables false

theorem nval_set (P : List Int) : ∀ (j : Nat) (v : Int), j < P.length → nval (P.set j v) = nval P + 1000000000 ^ j * (v - P.getD j 0) := by
  induction P with
  | nil => intro j v h; simp at h
  | cons p P ih =>
    intro j v h
    cases j with
    | zero => simp [nval]; omega
    | succ j =>
      have i := ih j v (by simpa using h)
      have e : (p :: P).getD (j + 1) 0 = P.getD j 0 := by simp
      rw [List.set_cons_succ, nval, nval, i, e, Int.pow_succ, Int.mul_add, Int.mul_comm (1000000000 ^ j) 1000000000, Int.mul_assoc]; omega
theorem mul_bd2 {x y : Int} (h0 : 0 ≤ x) (h1 : x < 1000000000) (h2 : 0 ≤ y) (h3 : y < 1000000000) : 0 ≤ x * y ∧ x * y ≤ 999999998000000001 :=
  ⟨Int.mul_nonneg h0 h2, (mul_bd (by omega) h1 h2 h3).2⟩
theorem inner_step {P ys : List Int} {j k : Nat} {p x y c T : Int} (hj : j < P.length) (hp : P.getD j 0 = p) (hy : ys.getD k 0 = y) (hv : nval P + 1000000000 ^ j * (c + x * nval (ys.drop k)) = T) :
    nval (P.set j ((p + x * y + c) % 1000000000)) + 1000000000 ^ (j + 1) * ((p + x * y + c) / 1000000000 + x * nval (ys.drop (k + 1))) = T := by
  rw [nval_set P j _ hj, hp, ← hv, nval_drop_getD ys k, hy, Int.pow_succ, Int.mul_assoc, Int.add_assoc, ← Int.mul_add, Int.mul_add x]
  have e2 : x * (1000000000 * nval (ys.drop (k + 1))) = 1000000000 * (x * nval (ys.drop (k + 1))) := by rw [Int.mul_left_comm]
  rw [e2]
  congr 2
  have e := Int.emod_add_mul_ediv (p + x * y + c) 1000000000
  omega
/-- Behind the last limb nothing is carried. -/
theorem inner_top {P xs ys : List Int} {i k : Nat} {x c : Int} (hP : lok P = true) (hx : lok xs = true) (hy : lok ys = true) (hxi : xs[i]? = some x) (c0 : 0 ≤ c) (hk : ys.length ≤ k)
    (hv : nval P + 1000000000 ^ (i + k) * (c + x * nval (ys.drop k)) = nval (xs.take (i + 1)) * nval ys) : 0 < c → k = ys.length := by
  intro hc
  rw [drop_ge hk, Int.mul_zero, Int.add_zero] at hv
  have h0 := nval_nonneg hP
  have hi : i < xs.length := by
    rcases Nat.lt_or_ge i xs.length with h | h
    · exact h
    · rw [List.getElem?_eq_none h] at hxi; cases hxi
  have a := nval_lt (lok_take hx (i + 1))
  have a0 := nval_nonneg (lok_take hx (i + 1))
  have b := nval_lt hy
  have b0 := nval_nonneg hy
  rw [List.length_take, Nat.min_eq_left (by omega)] at a
  rcases Nat.lt_or_ge ys.length k with h | h
  · exfalso
    have p1 := pow_pos' (i + 1)
    have p2 := pow_pos' ys.length
    have m1 : nval (xs.take (i + 1)) * nval ys ≤ 1000000000 ^ (i + 1) * nval ys := Int.mul_le_mul_of_nonneg_right (Int.le_of_lt a) b0
    have m2 : (1000000000 : Int) ^ (i + 1) * nval ys < 1000000000 ^ (i + 1) * 1000000000 ^ ys.length := Int.mul_lt_mul_of_pos_left b p1
    rw [← Int.pow_add] at m2
    have m3 : (1000000000 : Int) ^ (i + 1 + ys.length) ≤ 1000000000 ^ (i + k) := pow_le_pow' (by omega)
    have m4 : (1000000000 : Int) ^ (i + k) * 1 ≤ 1000000000 ^ (i + k) * c := Int.mul_le_mul_of_nonneg_left (by omega) (Int.le_of_lt (pow_pos' _))
    omega
  · omega
theorem outer_next {P xs ys : List Int} {i : Nat} {x : Int} (hxi : xs[i]? = some x) (hv : nval P = nval (xs.take i) * nval ys) :
    nval P + 1000000000 ^ (i + 0) * (0 + x * nval (ys.drop 0)) = nval (xs.take (i + 1)) * nval ys := by
  have hi : i < xs.length := by
    rcases Nat.lt_or_ge i xs.length with h | h
    · exact h
    · rw [List.getElem?_eq_none h] at hxi; cases hxi
  rw [trim_step hxi, nval_snoc, List.length_take, Nat.min_eq_left (by omega), List.drop_zero, Nat.add_zero, Int.zero_add, hv, Int.add_mul, Int.mul_assoc]
theorem inner_end {P ys : List Int} {i k : Nat} {x c T : Int} (hk : ys.length ≤ k) (hc : c = 0) (hv : nval P + 1000000000 ^ (i + k) * (c + x * nval (ys.drop k)) = T) : nval P = T := by
  rw [drop_ge hk, hc] at hv; simpa using hv

set_option maxHeartbeats 3200000 in
theorem ref_times (xs ys : List Int) (va vb : Value) (w : World) (ha : In w va xs) (hb : In w vb ys) (hx : lok xs = true) (hy : lok ys = true) (hl1 : xs.length ≤ 1000) (hl2 : ys.length ≤ 1000) :
    Calls Tryd.prog 52 #[va, vb] w (GcdRes w (nval xs * nval ys).toNat) := by
  obtain ⟨A, c, rfl, hc, hm, hA⟩ := ha
  obtain ⟨B, d, rfl, hd, hn, hB⟩ := hb
  have HA := Lib.hid hA
  have HB := Lib.hid hB
  have HX := Lib.hid hx
  have HY := Lib.hid hy
  obtain ⟨i0, hi0, hz0, hz1, hz2⟩ := info_parts info_int
  clear hA hB hm hn hx hy
  go_enter Tryd.func52, Tryd.ntmps52
  go_wp2_with (first
    | (at_make; refine wpList_make_full _ rfl _ _ 23 rfl w.heap.size 3 i0 (.int .i64 0) 1 Tryd.underlying23 hi0 hz0 hz1 .i64 .i64 _ _ (xs.length + ys.length) rfl rfl (by omega) (by omega) (by rw [hz2]; omega) (by unfold maxLen; omega) (Nat.le_refl _) ?_; intro w1 hown hgrow; refine Hid.out ?_)
    | fail)
  refine Lib.hid ?_
  have HR0 := Lib.hid (show Row w1 w.heap.size (List.replicate (xs.length + ys.length) 0) from row_of_heap (heap_of_made hown))
  have HB0 := Lib.hid (show Below w.heap.size w w1 from (Below.refl _ _).grown hgrow (Nat.le_refl _) (fun k hk => by cases hk))
  clear hown hgrow
  go_wp2_with fail
  go_loopw [6] (fun iv wr => ∃ (i : Nat) (P : List Int), i ≤ xs.length ∧ iv = .int .i64 i ∧ P.length = xs.length + ys.length ∧ lok P = true ∧ nval P = nval (xs.take i) * nval ys ∧ Row wr w.heap.size P ∧ Below w.heap.size w wr) (fun iv _ => xs.length - (intOf iv).toNat)
  case atStart => exact ⟨0, _, Nat.zero_le _, rfl, by simp, lok_zeros _, by rw [nval_zeros]; simp [nval], HR0.out, HB0.out⟩
  case round =>
    obtain ⟨i, P, hi, rfl, hP, hPk, hPv, hrow, hbel⟩ := hrel
    have HPK := Lib.hid hPk
    have HPV := Lib.hid hPv
    have HP := Lib.hid hP
    have HR := Lib.hid hrow
    have HBL := Lib.hid hbel
    clear hPk hPv hP hrow hbel
    rcases Nat.lt_or_ge i xs.length with hlt | hge
    · obtain ⟨x, hxi⟩ : ∃ x, xs[i]? = some x := ⟨_, List.getElem?_eq_getElem hlt⟩
      have HXI := Lib.hid hxi
      obtain ⟨x0, x1⟩ := lok_at HX.out hxi
      clear hxi
      go_wp2_with fail
      go_loopw [7, 8] (fun cv kv wr2 => ∃ (k : Nat) (cc : Int) (Q : List Int), k ≤ ys.length + 1 ∧ kv = .int .i64 k ∧ cv = .int .i64 cc ∧ 0 ≤ cc ∧ cc < 1000000000 ∧ Q.length = xs.length + ys.length ∧ lok Q = true ∧
          nval Q + 1000000000 ^ (i + k) * (cc + x * nval (ys.drop k)) = nval (xs.take (i + 1)) * nval ys ∧ Row wr2 w.heap.size Q ∧ Below w.heap.size w wr2) (fun _ kv _ => ys.length + 1 - (intOf kv).toNat)
      case atStart => exact ⟨0, 0, P, by omega, rfl, rfl, by omega, by omega, HP.out, HPK.out, outer_next HXI.out HPV.out, HR.out, HBL.out⟩
      case round =>
        obtain ⟨k, cc, Q, hk, rfl, rfl, c0, c1, hQ, hQk, hQv, hrow, hbel⟩ := hrel
        have HQ := Lib.hid hQ
        have HQK := Lib.hid hQk
        have HQV := Lib.hid hQv
        have HR2 := Lib.hid hrow
        have HB2 := Lib.hid hbel
        clear hQ hQk hQv hrow hbel
        have go : (k < ys.length ∨ (ys.length ≤ k ∧ 0 < cc ∧ k = ys.length)) ∨ (ys.length ≤ k ∧ decide (0 < cc) = false ∧ cc = 0) := by
          rcases Nat.lt_or_ge k ys.length with h1 | h1
          · left; left; exact h1
          · rcases Int.lt_or_le 0 cc with h3 | h3
            · left; right; exact ⟨h1, h3, inner_top HQK.out HX.out HY.out HXI.out c0 h1 HQV.out h3⟩
            · right; exact ⟨h1, decide_eq_false (by omega), by omega⟩
        rcases go with go | ⟨g1, g2, g3⟩
        · have hkl : k ≤ ys.length := by rcases go with h | ⟨_, _, h⟩ <;> omega
          have hj : i + k < Q.length := by rw [HQ.out]; omega
          obtain ⟨b, off, rfl, _, _, hcell⟩ := (HA.out.below HB2.out (Nat.le_refl _)) i x HXI.out
          obtain ⟨p, hp⟩ : ∃ p, Q.getD (i + k) 0 = p := ⟨_, rfl⟩
          obtain ⟨y, hy⟩ : ∃ y, ys.getD k 0 = y := ⟨_, rfl⟩
          have hcellp := HR2.out.cell (i := i + k) (z := p) (by rw [← hp, List.getD_eq_getElem?_getD, List.getElem?_eq_getElem hj]; rfl)
          have hfr := HR2.out.frozen (i + k)
          have pb := lok_getD HQK.out (i + k)
          have yb := lok_getD HY.out k
          rw [hp] at pb
          rw [hy] at yb
          have xy := mul_bd2 x0 x1 yb.1 yb.2
          have HST := Lib.hid (inner_step hj hp hy HQV.out)
          have hay : ∀ n, Calls Tryd.prog 50 #[.slice B ys.length d, .int .i64 (k : Int)] (wr.drewN n) fun e w' => e = .returned (.int .i64 y) ∧ w' = wr.drewN n := by
            intro n
            rw [← hy]
            exact (ref_at ys B d k _ _ (wr.drewN n) ((HB.out.below HB2.out (Nat.le_refl _)).keep fun _ _ _ => rfl) (by omega)).mono fun _ _ h => ⟨h.1, h.2.symm⟩
          have HAY := Lib.hid hay
          have HJ := Lib.hid hj
          have hj1 : (i : Int) + (k : Int) < (xs.length : Int) + (ys.length : Int) := by have := HQ.out; omega
          have hj2 : i + k < xs.length + ys.length := by omega
          obtain ⟨p0, p1⟩ := pb
          obtain ⟨xy0, xy1⟩ := xy
          have hq := tdiv_nonneg' (n := p + x * y + cc) (by omega)
          have hr := tmod_nonneg' (n := p + x * y + cc) (by omega)
          have q0 : 0 ≤ (p + x * y + cc) / 1000000000 := by omega
          have q1 : (p + x * y + cc) / 1000000000 < 1000000000 := by omega
          clear hp hy hay yb hj
          rcases go with go | ⟨go, go', -⟩
          all_goals
            go_wp2_with fail
            go_quiet ((go_at_call 50; exact Calls.quiet_of_same (HAY.out _)))
            have hcp2 : (wr.drewN nq).cell? ⟨w.heap.size, i + k, none⟩ = some (.int .i64 p) := hcellp
            have hfr2 : (wr.drewN nq).frozen? ⟨w.heap.size, i + k, none⟩ = false := hfr
            have HR3 := Lib.hid (Row.store (w := wr.drewN nq) (HR2.out.keep rfl) (i + k) ((p + x * y + cc) % 1000000000))
            have HB3 := Lib.hid ((below_drewN HB2.out nq).setCell (p := ⟨w.heap.size, i + k, none⟩) (Nat.le_refl _) (.int .i64 ((p + x * y + cc) % 1000000000)))
            go_wp2_with fail
            go_roundw
            case rel => exact ⟨k + 1, _, _, by omega, by go_num, rfl, q0, q1, by rw [List.length_set]; exact HQ.out, lok_set HQK.out _ (by omega) (by omega), HST.out, HR3.out, HB3.out⟩
            case measure => simp [intOf]; omega
        · have hv := inner_end g1 g3 HQV.out
          have HV := Lib.hid hv
          clear hv g3
          go_wp2_with fail
          go_roundw
          case rel => exact ⟨i + 1, Q, by omega, by go_num, HQ.out, HQK.out, HV.out, HR2.out, HB2.out⟩
          case measure => simp [intOf]; omega
    · obtain rfl : i = xs.length := by omega
      have hv := HPV.out
      rw [List.take_length] at hv
      have HV := Lib.hid hv
      clear hv
      have HPL := Lib.hid HP.out
      go_wp2_with fail
      go_loop [10] (fun v => ∃ k : Nat, k ≤ P.length ∧ v = .int .i64 k ∧ trimL (P.take k) = trimL P) (fun v => (intOf v).toNat)
      case atStart => exact ⟨P.length, Nat.le_refl _, by rw [HP.out]; go_num, by rw [List.take_length]⟩
      case round =>
        obtain ⟨k, hk, rfl, ht⟩ := hrel
        have HT := Lib.hid ht
        have hk' : k ≤ xs.length + ys.length := by have := HP.out; omega
        have hk2 : (k : Int) ≤ (xs.length : Int) + (ys.length : Int) := by omega
        clear ht hk
        have fin : trimL P = P.take k → Sl wr w.heap.size wr.heap.size (.slice (some ⟨w.heap.size, 0, none⟩) k (xs.length + ys.length)) (limbs (nval xs * nval ys).toNat) := by
          intro he
          have e : limbs (nval xs * nval ys).toNat = P.take k := by rw [← HV.out, ← trimL_limbs HPK.out, he]
          have hl : (P.take k).length = k := by rw [List.length_take]; have := HP.out; omega
          rw [e]
          have := hl
          refine ⟨some ⟨w.heap.size, 0, none⟩, xs.length + ys.length, by rw [hl], by rw [hl]; exact hk', by unfold maxLen; omega, ?_⟩
          exact (HR.out.take k).holds (fun j z hz => by rw [Nat.zero_add]; exact hz) (Nat.le_refl _) HR.out.lt
        have FIN := Lib.hid fin
        clear fin
        rcases Nat.eq_zero_or_pos k with rfl | hp
        · have he : trimL P = P.take 0 := by rw [← HT.out, List.take_zero]; rfl
          have HE := Lib.hid he
          clear he
          go_wp2_with fail
          go_ret
          exact ⟨_, rfl, FIN.out HE.out, HBL.out⟩
        · obtain ⟨k, rfl⟩ : ∃ j, k = j + 1 := ⟨k - 1, by omega⟩
          obtain ⟨z, hz⟩ : ∃ z, P[k]? = some z := ⟨_, List.getElem?_eq_getElem (by have := HP.out; omega)⟩
          have hcell := HR.out.cell hz
          have HZ := Lib.hid hz
          have e2 : ((k + 1 : Nat) : Int) - 1 = k := by omega
          have hkl : (k : Int) < (xs.length : Int) + (ys.length : Int) := by omega
          have hkl2 : k < xs.length + ys.length := by omega
          clear hz
          by_cases h0 : z = 0
          · subst h0
            go_wp2_with fail
            go_round
            case rel =>
              refine ⟨k, by have := HP.out; omega, by go_num, ?_⟩
              rw [← HT.out, trim_step HZ.out, trimL_snoc_zero]
            case measure => simp [intOf] <;> omega
          · have H0 := Lib.hid h0
            have he : trimL P = P.take (k + 1) := by rw [← HT.out, trim_step HZ.out, trimL_snoc H0.out]
            have HE := Lib.hid he
            clear he
            go_wp2_with fail
            go_ret
            exact ⟨_, rfl, FIN.out HE.out, HBL.out⟩

set_option maxHeartbeats 1600000 in
theorem ref_Mul (xs ys : List Int) (va vb : Value) (w : World) (ha : In w va xs) (hb : In w vb ys) :
    Calls Tryd.prog 32 #[va, vb] w (Res w (mulV xs ys) (mulE xs ys)) := by
  obtain ⟨A, c, rfl, hc, hm, hA⟩ := ha
  obtain ⟨B, d, rfl, hd, hn, hB⟩ := hb
  have HIA := Lib.hid (show In w (.slice A xs.length c) xs from ⟨A, c, rfl, hc, hm, hA⟩)
  have HIB := Lib.hid (show In w (.slice B ys.length d) ys from ⟨B, d, rfl, hd, hn, hB⟩)
  have HA := Lib.hid hA
  have HB := Lib.hid hB
  have hm1 : xs.length ≤ 9223372036854775807 := Nat.le_trans hc hm
  have hm2 : ys.length ≤ 9223372036854775807 := Nat.le_trans hd hn
  clear hA hB hm hn
  rcases both_cases xs ys with ⟨hx, hbo⟩ | ⟨hx, hy, hbo⟩ | ⟨hx, hy, hbo⟩
  · have HBO := Lib.hid hbo
    clear hbo
    go_enter Tryd.func32, Tryd.ntmps32
    go_wp2_with fail
    refine (ref_Valid xs A c _ _ w HA.out hm1).mono ?_
    rintro e w' ⟨rfl, rfl⟩
    go_wp2_with fail
    go_ret2
    exact Res.none (by rw [mulV, HBO.out]; rfl) (by rw [mulE, HBO.out]; rfl) rfl (Below.refl _ _)
  · have HBO := Lib.hid hbo
    clear hbo
    go_enter Tryd.func32, Tryd.ntmps32
    go_wp2_with fail
    refine (ref_Valid xs A c _ _ w HA.out hm1).mono ?_
    rintro e w' ⟨rfl, rfl⟩
    go_wp2_with fail
    refine (ref_Valid ys B d _ _ _ HB.out hm2).mono ?_
    rintro e w' ⟨rfl, rfl⟩
    go_wp2_with fail
    go_ret2
    exact Res.none (by rw [mulV, HBO.out]; rfl) (by rw [mulE, HBO.out]; rfl) rfl (Below.refl _ _)
  · have HBO := Lib.hid hbo
    have l1 := valid_len hx
    have l2 := valid_len hy
    have HX := Lib.hid (valid_lok hx)
    have HY := Lib.hid (valid_lok hy)
    have hlen : (limbs (nval xs * nval ys).toNat).length ≤ 96 := by
      refine limbs_len_le.mpr ?_
      have a := nval_lt (valid_lok hx)
      have b := nval_lt (valid_lok hy)
      have a0 := nval_nonneg (valid_lok hx)
      have b0 := nval_nonneg (valid_lok hy)
      have p1 : nval xs < 1000000000 ^ 48 := Int.lt_of_lt_of_le a (pow_le_pow' l1)
      have p2 : nval ys ≤ 1000000000 ^ 48 := Int.le_of_lt (Int.lt_of_lt_of_le b (pow_le_pow' l2))
      have m1 : nval xs * nval ys ≤ nval xs * 1000000000 ^ 48 := Int.mul_le_mul_of_nonneg_left p2 a0
      have m2 : nval xs * (1000000000 : Int) ^ 48 < 1000000000 ^ 48 * 1000000000 ^ 48 := Int.mul_lt_mul_of_pos_right p1 (pow_pos' _)
      have m3 : ((1000000000 ^ 96 : Nat) : Int) = 1000000000 ^ 48 * 1000000000 ^ 48 := by rw [← Int.pow_add, Int.natCast_pow]; rfl
      have m4 : nval xs * nval ys < ((1000000000 ^ 96 : Nat) : Int) := by rw [m3]; exact Int.lt_of_le_of_lt m1 m2
      exact (Int.toNat_lt (Int.mul_nonneg a0 b0)).mpr m4
    have HL := Lib.hid hlen
    clear hbo hlen
    go_enter Tryd.func32, Tryd.ntmps32
    go_wp2_with fail
    refine (ref_Valid xs A c _ _ w HA.out hm1).mono ?_
    rintro e w' ⟨rfl, rfl⟩
    go_wp2_with fail
    refine (ref_Valid ys B d _ _ _ HB.out hm2).mono ?_
    rintro e w' ⟨rfl, rfl⟩
    go_wp2_with fail
    refine (ref_times xs ys _ _ w HIA.out HIB.out HX.out HY.out (by omega) (by omega)).mono ?_
    rintro e w1 ⟨v, rfl, hs, hb⟩
    have HS := Lib.hid hs.toIn
    have HB1 := Lib.hid hb
    clear hs hb
    go_wp2_with fail
    refine (ref_fit (limbs (nval xs * nval ys).toNat) v w1 HS.out (lok_limbs _) (by have := HL.out; omega)).mono ?_
    rintro e w2 ⟨v2, rfl, hs, hb⟩
    rw [nval_limbs, Int.toNat_natCast] at hs ⊢
    have HS2 := Lib.hid hs
    have HB2 := Lib.hid hb
    clear hs hb
    go_wp2_with fail
    go_ret2
    exact ⟨v2, by rw [mulE, HBO.out]; rfl, by rw [mulV, HBO.out]; exact HS2.out.more HB1.out.size (Nat.le_refl _), bstep HB1.out HB2.out⟩

set_option maxHeartbeats 1600000 in
theorem walk_NatProducts (w : World) (A : Option Addr) (n c : Nat) (xs : List Int) (ha : In w (.slice A n c) xs) (B : Option Addr) (m d : Nat) (ys : List Int) (hb : In w (.slice B m d) ys) (ht : Tab w) :
    Calls Tryd.prog 6 #[.slice A n c, .slice B m d] w fun e w' => e = .returned (.bool true) ∧ Below w.heap.size w w' := by
  have HA := Lib.hid ha
  have HB := Lib.hid hb
  have HT := Lib.hid ht
  clear ha hb ht
  cases hf : (decide (n ≤ 100) && decide (m ≤ 100)) with
  | false =>
    go_enter Tryd.func6, Tryd.ntmps6
    go_wp2_with fail
    refine (few_c A B n c m d w).mono ?_
    rintro e w' ⟨rfl, rfl⟩
    rw [hf]
    go_wp2_with fail
    refine (awake_true w HT.out).mono ?_
    rintro e w' ⟨rfl, hb⟩
    have HBL := Lib.hid hb
    clear hb
    go_wp2_with fail
    go_ret
    exact ⟨rfl, HBL.out⟩
  | true =>
    go_enter Tryd.func6, Tryd.ntmps6
    go_wp2_with fail
    refine (few_c A B n c m d w).mono ?_
    rintro e w' ⟨rfl, rfl⟩
    rw [hf]
    clear hf
    go_wp2_with fail
    refine (nat_Mul xs ys _ _ w HA.out HB.out).mono ?_
    rintro e w1 hr
    obtain ⟨v1, rfl, h1, hb1⟩ := res_open hr
    have H1 := Lib.hid h1
    have HB1 := Lib.hid hb1
    clear hr h1 hb1
    go_wp2_with fail
    refine (ref_Mul xs ys _ _ w1 (HA.out.on HB1.out) (HB.out.on HB1.out)).mono ?_
    rintro e w2 hr
    obtain ⟨v2, rfl, h2, hb2⟩ := res_open hr
    have H1 := Lib.hid (H1.out.on hb2)
    have H2 := Lib.hid h2
    have HB2 := Lib.hid (bstep HB1.out hb2)
    clear hr h2 hb2
    go_wp2_with fail
    refine (same_self H1.out H2.out).mono ?_
    rintro e w5 ⟨rfl, hb5⟩
    have HB5 := Lib.hid (bstep HB2.out hb5)
    clear hb5
    go_wp2_with fail
    refine (awake_true w5 (HT.out.on HB5.out)).mono ?_
    rintro e w7 ⟨rfl, hb7⟩
    have HB7 := Lib.hid (bstep HB5.out hb7)
    clear hb7
    go_wp2_with fail
    go_ret
    exact ⟨rfl, HB7.out⟩
#print axioms ref_times
#print axioms walk_NatProducts
end Go.Proofs.YtmbpcjnlniidkaaDoor
