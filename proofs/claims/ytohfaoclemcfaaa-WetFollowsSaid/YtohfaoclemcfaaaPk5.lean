/- Several texts in one: NatU, NatV, NatV2, NatV3, NatV4. -/
import Derived.Test.YtohfaoclemcfaaaPk4
import Derived.Test.YtohfaoclemcfaaaPk3
/- Contracts of times and Mul of the reference. -/
namespace Go.Proofs.Ytohfaoclemcfaaa
open Go.ChangeShapes Go.WideShapes Go.RowKit
set_option linter.unusedVariables false
set_option maxRecDepth 100000

theorem nval_set (P : List Int) : ∀ (j : Nat) (v : Int), j < P.length → nval (P.set j v) = nval P + 1000000000 ^ j * (v - P.getD j 0) := by
  induction P with
  | nil => intro j v h; simp at h
  | cons p P ih =>
    intro j v h
    cases j with
    | zero => simp [nval]; omega
    | succ j =>
      have i := ih j v (by simpa using h)
      have e : (p :: P).getD (j + 1) 0 = P.getD j 0 := by simp
      rw [List.set_cons_succ, nval, nval, i, e, Int.pow_succ, Int.mul_add, Int.mul_comm (1000000000 ^ j) 1000000000, Int.mul_assoc]; omega
theorem mul_bd2 {x y : Int} (h0 : 0 ≤ x) (h1 : x < 1000000000) (h2 : 0 ≤ y) (h3 : y < 1000000000) : 0 ≤ x * y ∧ x * y ≤ 999999998000000001 :=
  ⟨Int.mul_nonneg h0 h2, (mul_bd (by omega) h1 h2 h3).2⟩
theorem inner_step {P ys : List Int} {j k : Nat} {p x y c T : Int} (hj : j < P.length) (hp : P.getD j 0 = p) (hy : ys.getD k 0 = y) (hv : nval P + 1000000000 ^ j * (c + x * nval (ys.drop k)) = T) :
    nval (P.set j ((p + x * y + c) % 1000000000)) + 1000000000 ^ (j + 1) * ((p + x * y + c) / 1000000000 + x * nval (ys.drop (k + 1))) = T := by
  rw [nval_set P j _ hj, hp, ← hv, nval_drop_getD ys k, hy, Int.pow_succ, Int.mul_assoc, Int.add_assoc, ← Int.mul_add, Int.mul_add x]
  have e2 : x * (1000000000 * nval (ys.drop (k + 1))) = 1000000000 * (x * nval (ys.drop (k + 1))) := by rw [Int.mul_left_comm]
  rw [e2]
  congr 2
  have e := Int.emod_add_mul_ediv (p + x * y + c) 1000000000
  omega
/-- Behind the last limb nothing is carried. -/
theorem inner_top {P xs ys : List Int} {i k : Nat} {x c : Int} (hP : lok P = true) (hx : lok xs = true) (hy : lok ys = true) (hxi : xs[i]? = some x) (c0 : 0 ≤ c) (hk : ys.length ≤ k)
    (hv : nval P + 1000000000 ^ (i + k) * (c + x * nval (ys.drop k)) = nval (xs.take (i + 1)) * nval ys) : 0 < c → k = ys.length := by
  intro hc
  rw [drop_ge hk, Int.mul_zero, Int.add_zero] at hv
  have h0 := nval_nonneg hP
  have hi : i < xs.length := by
    rcases Nat.lt_or_ge i xs.length with h | h
    · exact h
    · rw [List.getElem?_eq_none h] at hxi; cases hxi
  have a := nval_lt (lok_take hx (i + 1))
  have a0 := nval_nonneg (lok_take hx (i + 1))
  have b := nval_lt hy
  have b0 := nval_nonneg hy
  rw [List.length_take, Nat.min_eq_left (by omega)] at a
  rcases Nat.lt_or_ge ys.length k with h | h
  · exfalso
    have p1 := pow_pos' (i + 1)
    have p2 := pow_pos' ys.length
    have m1 : nval (xs.take (i + 1)) * nval ys ≤ 1000000000 ^ (i + 1) * nval ys := Int.mul_le_mul_of_nonneg_right (Int.le_of_lt a) b0
    have m2 : (1000000000 : Int) ^ (i + 1) * nval ys < 1000000000 ^ (i + 1) * 1000000000 ^ ys.length := Int.mul_lt_mul_of_pos_left b p1
    rw [← Int.pow_add] at m2
    have m3 : (1000000000 : Int) ^ (i + 1 + ys.length) ≤ 1000000000 ^ (i + k) := pow_le_pow' (by omega)
    have m4 : (1000000000 : Int) ^ (i + k) * 1 ≤ 1000000000 ^ (i + k) * c := Int.mul_le_mul_of_nonneg_left (by omega) (Int.le_of_lt (pow_pos' _))
    omega
  · omega
theorem outer_next {P xs ys : List Int} {i : Nat} {x : Int} (hxi : xs[i]? = some x) (hv : nval P = nval (xs.take i) * nval ys) :
    nval P + 1000000000 ^ (i + 0) * (0 + x * nval (ys.drop 0)) = nval (xs.take (i + 1)) * nval ys := by
  have hi : i < xs.length := by
    rcases Nat.lt_or_ge i xs.length with h | h
    · exact h
    · rw [List.getElem?_eq_none h] at hxi; cases hxi
  rw [trim_step hxi, nval_snoc, List.length_take, Nat.min_eq_left (by omega), List.drop_zero, Nat.add_zero, Int.zero_add, hv, Int.add_mul, Int.mul_assoc]
theorem inner_end {P ys : List Int} {i k : Nat} {x c T : Int} (hk : ys.length ≤ k) (hc : c = 0) (hv : nval P + 1000000000 ^ (i + k) * (c + x * nval (ys.drop k)) = T) : nval P = T := by
  rw [drop_ge hk, hc] at hv; simpa using hv

set_option maxHeartbeats 3200000 in
theorem ref_times (xs ys : List Int) (va vb : Value) (w : World) (ha : In w va xs) (hb : In w vb ys) (hx : lok xs = true) (hy : lok ys = true) (hl1 : xs.length ≤ 1000) (hl2 : ys.length ≤ 1000) :
    Calls Try.prog 64 #[va, vb] w (GcdRes w (nval xs * nval ys).toNat) := by
  obtain ⟨A, c, rfl, hc, hm, hA⟩ := ha
  obtain ⟨B, d, rfl, hd, hn, hB⟩ := hb
  have HA := Lib.hid hA
  have HB := Lib.hid hB
  have HX := Lib.hid hx
  have HY := Lib.hid hy
  obtain ⟨i0, hi0, hz0, hz1, hz2⟩ := info_parts info_int
  clear hA hB hm hn hx hy
  go_enter Try.func64, Try.ntmps64
  go_wp2_with (first
    | (at_make; refine wpList_make_full _ rfl _ _ 25 rfl w.heap.size 3 i0 (.int .i64 0) 1 Try.underlying25 hi0 hz0 hz1 .i64 .i64 _ _ (xs.length + ys.length) rfl rfl (by omega) (by omega) (by rw [hz2]; omega) (by unfold maxLen; omega) (Nat.le_refl _) ?_; intro w1 hown hgrow; refine Hid.out ?_)
    | fail)
  refine Lib.hid ?_
  have HR0 := Lib.hid (show Row w1 w.heap.size (List.replicate (xs.length + ys.length) 0) from row_of_heap (heap_of_made hown))
  have HB0 := Lib.hid (show Below w.heap.size w w1 from (Below.refl _ _).grown hgrow (Nat.le_refl _) (fun k hk => by cases hk))
  clear hown hgrow
  go_wp2_with fail
  go_loopw [6] (fun iv wr => ∃ (i : Nat) (P : List Int), i ≤ xs.length ∧ iv = .int .i64 i ∧ P.length = xs.length + ys.length ∧ lok P = true ∧ nval P = nval (xs.take i) * nval ys ∧ Row wr w.heap.size P ∧ Below w.heap.size w wr) (fun iv _ => xs.length - (intOf iv).toNat)
  case atStart => exact ⟨0, _, Nat.zero_le _, rfl, by simp, lok_zeros _, by rw [nval_zeros]; simp [nval], HR0.out, HB0.out⟩
  case round =>
    obtain ⟨i, P, hi, rfl, hP, hPk, hPv, hrow, hbel⟩ := hrel
    have HPK := Lib.hid hPk
    have HPV := Lib.hid hPv
    have HP := Lib.hid hP
    have HR := Lib.hid hrow
    have HBL := Lib.hid hbel
    clear hPk hPv hP hrow hbel
    rcases Nat.lt_or_ge i xs.length with hlt | hge
    · obtain ⟨x, hxi⟩ : ∃ x, xs[i]? = some x := ⟨_, List.getElem?_eq_getElem hlt⟩
      have HXI := Lib.hid hxi
      obtain ⟨x0, x1⟩ := lok_at HX.out hxi
      clear hxi
      go_wp2_with fail
      go_loopw [7, 8] (fun cv kv wr2 => ∃ (k : Nat) (cc : Int) (Q : List Int), k ≤ ys.length + 1 ∧ kv = .int .i64 k ∧ cv = .int .i64 cc ∧ 0 ≤ cc ∧ cc < 1000000000 ∧ Q.length = xs.length + ys.length ∧ lok Q = true ∧
          nval Q + 1000000000 ^ (i + k) * (cc + x * nval (ys.drop k)) = nval (xs.take (i + 1)) * nval ys ∧ Row wr2 w.heap.size Q ∧ Below w.heap.size w wr2) (fun _ kv _ => ys.length + 1 - (intOf kv).toNat)
      case atStart => exact ⟨0, 0, P, by omega, rfl, rfl, by omega, by omega, HP.out, HPK.out, outer_next HXI.out HPV.out, HR.out, HBL.out⟩
      case round =>
        obtain ⟨k, cc, Q, hk, rfl, rfl, c0, c1, hQ, hQk, hQv, hrow, hbel⟩ := hrel
        have HQ := Lib.hid hQ
        have HQK := Lib.hid hQk
        have HQV := Lib.hid hQv
        have HR2 := Lib.hid hrow
        have HB2 := Lib.hid hbel
        clear hQ hQk hQv hrow hbel
        have go : (k < ys.length ∨ (ys.length ≤ k ∧ 0 < cc ∧ k = ys.length)) ∨ (ys.length ≤ k ∧ decide (0 < cc) = false ∧ cc = 0) := by
          rcases Nat.lt_or_ge k ys.length with h1 | h1
          · left; left; exact h1
          · rcases Int.lt_or_le 0 cc with h3 | h3
            · left; right; exact ⟨h1, h3, inner_top HQK.out HX.out HY.out HXI.out c0 h1 HQV.out h3⟩
            · right; exact ⟨h1, decide_eq_false (by omega), by omega⟩
        rcases go with go | ⟨g1, g2, g3⟩
        · have hkl : k ≤ ys.length := by rcases go with h | ⟨_, _, h⟩ <;> omega
          have hj : i + k < Q.length := by rw [HQ.out]; omega
          obtain ⟨b, off, rfl, _, _, hcell⟩ := (HA.out.below HB2.out (Nat.le_refl _)) i x HXI.out
          obtain ⟨p, hp⟩ : ∃ p, Q.getD (i + k) 0 = p := ⟨_, rfl⟩
          obtain ⟨y, hy⟩ : ∃ y, ys.getD k 0 = y := ⟨_, rfl⟩
          have hcellp := HR2.out.cell (i := i + k) (z := p) (by rw [← hp, List.getD_eq_getElem?_getD, List.getElem?_eq_getElem hj]; rfl)
          have hfr := HR2.out.frozen (i + k)
          have pb := lok_getD HQK.out (i + k)
          have yb := lok_getD HY.out k
          rw [hp] at pb
          rw [hy] at yb
          have xy := mul_bd2 x0 x1 yb.1 yb.2
          have HST := Lib.hid (inner_step hj hp hy HQV.out)
          have hay : ∀ n, Calls Try.prog 78 #[.slice B ys.length d, .int .i64 (k : Int)] (wr.drewN n) fun e w' => e = .returned (.int .i64 y) ∧ w' = wr.drewN n := by
            intro n
            rw [← hy]
            exact (ref_at ys B d k _ _ (wr.drewN n) ((HB.out.below HB2.out (Nat.le_refl _)).keep fun _ _ _ => rfl) (by omega)).mono fun _ _ h => ⟨h.1, h.2.symm⟩
          have HAY := Lib.hid hay
          have HJ := Lib.hid hj
          have hj1 : (i : Int) + (k : Int) < (xs.length : Int) + (ys.length : Int) := by have := HQ.out; omega
          have hj2 : i + k < xs.length + ys.length := by omega
          obtain ⟨p0, p1⟩ := pb
          obtain ⟨xy0, xy1⟩ := xy
          have hq := tdiv_nonneg' (n := p + x * y + cc) (by omega)
          have hr := tmod_nonneg' (n := p + x * y + cc) (by omega)
          have q0 : 0 ≤ (p + x * y + cc) / 1000000000 := by omega
          have q1 : (p + x * y + cc) / 1000000000 < 1000000000 := by omega
          clear hp hy hay yb hj
          rcases go with go | ⟨go, go', -⟩
          all_goals
            go_wp2_with fail
            go_quiet ((go_at_call 78; exact Calls.quiet_of_same (HAY.out _)))
            have hcp2 : (wr.drewN nq).cell? ⟨w.heap.size, i + k, none⟩ = some (.int .i64 p) := hcellp
            have hfr2 : (wr.drewN nq).frozen? ⟨w.heap.size, i + k, none⟩ = false := hfr
            have HR3 := Lib.hid (Row.store (w := wr.drewN nq) (HR2.out.keep rfl) (i + k) ((p + x * y + cc) % 1000000000))
            have HB3 := Lib.hid ((below_drewN HB2.out nq).setCell (p := ⟨w.heap.size, i + k, none⟩) (Nat.le_refl _) (.int .i64 ((p + x * y + cc) % 1000000000)))
            go_wp2_with fail
            go_roundw
            case rel => exact ⟨k + 1, _, _, by omega, by go_num, rfl, q0, q1, by rw [List.length_set]; exact HQ.out, lok_set HQK.out _ (by omega) (by omega), HST.out, HR3.out, HB3.out⟩
            case measure => simp [intOf]; omega
        · have hv := inner_end g1 g3 HQV.out
          have HV := Lib.hid hv
          clear hv g3
          go_wp2_with fail
          go_roundw
          case rel => exact ⟨i + 1, Q, by omega, by go_num, HQ.out, HQK.out, HV.out, HR2.out, HB2.out⟩
          case measure => simp [intOf]; omega
    · obtain rfl : i = xs.length := by omega
      have hv := HPV.out
      rw [List.take_length] at hv
      have HV := Lib.hid hv
      clear hv
      have HPL := Lib.hid HP.out
      go_wp2_with fail
      go_loop [10] (fun v => ∃ k : Nat, k ≤ P.length ∧ v = .int .i64 k ∧ trimL (P.take k) = trimL P) (fun v => (intOf v).toNat)
      case atStart => exact ⟨P.length, Nat.le_refl _, by rw [HP.out]; go_num, by rw [List.take_length]⟩
      case round =>
        obtain ⟨k, hk, rfl, ht⟩ := hrel
        have HT := Lib.hid ht
        have hk' : k ≤ xs.length + ys.length := by have := HP.out; omega
        have hk2 : (k : Int) ≤ (xs.length : Int) + (ys.length : Int) := by omega
        clear ht hk
        have fin : trimL P = P.take k → Sl wr w.heap.size wr.heap.size (.slice (some ⟨w.heap.size, 0, none⟩) k (xs.length + ys.length)) (limbs (nval xs * nval ys).toNat) := by
          intro he
          have e : limbs (nval xs * nval ys).toNat = P.take k := by rw [← HV.out, ← trimL_limbs HPK.out, he]
          have hl : (P.take k).length = k := by rw [List.length_take]; have := HP.out; omega
          rw [e]
          have := hl
          refine ⟨some ⟨w.heap.size, 0, none⟩, xs.length + ys.length, by rw [hl], by rw [hl]; exact hk', by unfold maxLen; omega, ?_⟩
          exact (HR.out.take k).holds (fun j z hz => by rw [Nat.zero_add]; exact hz) (Nat.le_refl _) HR.out.lt
        have FIN := Lib.hid fin
        clear fin
        rcases Nat.eq_zero_or_pos k with rfl | hp
        · have he : trimL P = P.take 0 := by rw [← HT.out, List.take_zero]; rfl
          have HE := Lib.hid he
          clear he
          go_wp2_with fail
          go_ret
          exact ⟨_, rfl, FIN.out HE.out, HBL.out⟩
        · obtain ⟨k, rfl⟩ : ∃ j, k = j + 1 := ⟨k - 1, by omega⟩
          obtain ⟨z, hz⟩ : ∃ z, P[k]? = some z := ⟨_, List.getElem?_eq_getElem (by have := HP.out; omega)⟩
          have hcell := HR.out.cell hz
          have HZ := Lib.hid hz
          have e2 : ((k + 1 : Nat) : Int) - 1 = k := by omega
          have hkl : (k : Int) < (xs.length : Int) + (ys.length : Int) := by omega
          have hkl2 : k < xs.length + ys.length := by omega
          clear hz
          by_cases h0 : z = 0
          · subst h0
            go_wp2_with fail
            go_round
            case rel =>
              refine ⟨k, by have := HP.out; omega, by go_num, ?_⟩
              rw [← HT.out, trim_step HZ.out, trimL_snoc_zero]
            case measure => simp [intOf] <;> omega
          · have H0 := Lib.hid h0
            have he : trimL P = P.take (k + 1) := by rw [← HT.out, trim_step HZ.out, trimL_snoc H0.out]
            have HE := Lib.hid he
            clear he
            go_wp2_with fail
            go_ret
            exact ⟨_, rfl, FIN.out HE.out, HBL.out⟩

set_option maxHeartbeats 1600000 in
theorem ref_Mul (xs ys : List Int) (va vb : Value) (w : World) (ha : In w va xs) (hb : In w vb ys) :
    Calls Try.prog 47 #[va, vb] w (Res w (mulV xs ys) (mulE xs ys)) := by
  obtain ⟨A, c, rfl, hc, hm, hA⟩ := ha
  obtain ⟨B, d, rfl, hd, hn, hB⟩ := hb
  have HIA := Lib.hid (show In w (.slice A xs.length c) xs from ⟨A, c, rfl, hc, hm, hA⟩)
  have HIB := Lib.hid (show In w (.slice B ys.length d) ys from ⟨B, d, rfl, hd, hn, hB⟩)
  have HA := Lib.hid hA
  have HB := Lib.hid hB
  have hm1 : xs.length ≤ 9223372036854775807 := Nat.le_trans hc hm
  have hm2 : ys.length ≤ 9223372036854775807 := Nat.le_trans hd hn
  clear hA hB hm hn
  rcases both_cases xs ys with ⟨hx, hbo⟩ | ⟨hx, hy, hbo⟩ | ⟨hx, hy, hbo⟩
  · have HBO := Lib.hid hbo
    clear hbo
    go_enter Try.func47, Try.ntmps47
    go_wp2_with fail
    refine (ref_Valid xs A c _ _ w HA.out hm1).mono ?_
    rintro e w' ⟨rfl, rfl⟩
    go_wp2_with fail
    go_ret2
    exact Res.none (by rw [mulV, HBO.out]; rfl) (by rw [mulE, HBO.out]; rfl) rfl (Below.refl _ _)
  · have HBO := Lib.hid hbo
    clear hbo
    go_enter Try.func47, Try.ntmps47
    go_wp2_with fail
    refine (ref_Valid xs A c _ _ w HA.out hm1).mono ?_
    rintro e w' ⟨rfl, rfl⟩
    go_wp2_with fail
    refine (ref_Valid ys B d _ _ _ HB.out hm2).mono ?_
    rintro e w' ⟨rfl, rfl⟩
    go_wp2_with fail
    go_ret2
    exact Res.none (by rw [mulV, HBO.out]; rfl) (by rw [mulE, HBO.out]; rfl) rfl (Below.refl _ _)
  · have HBO := Lib.hid hbo
    have l1 := valid_len hx
    have l2 := valid_len hy
    have HX := Lib.hid (valid_lok hx)
    have HY := Lib.hid (valid_lok hy)
    have hlen : (limbs (nval xs * nval ys).toNat).length ≤ 96 := by
      refine limbs_len_le.mpr ?_
      have a := nval_lt (valid_lok hx)
      have b := nval_lt (valid_lok hy)
      have a0 := nval_nonneg (valid_lok hx)
      have b0 := nval_nonneg (valid_lok hy)
      have p1 : nval xs < 1000000000 ^ 48 := Int.lt_of_lt_of_le a (pow_le_pow' l1)
      have p2 : nval ys ≤ 1000000000 ^ 48 := Int.le_of_lt (Int.lt_of_lt_of_le b (pow_le_pow' l2))
      have m1 : nval xs * nval ys ≤ nval xs * 1000000000 ^ 48 := Int.mul_le_mul_of_nonneg_left p2 a0
      have m2 : nval xs * (1000000000 : Int) ^ 48 < 1000000000 ^ 48 * 1000000000 ^ 48 := Int.mul_lt_mul_of_pos_right p1 (pow_pos' _)
      have m3 : ((1000000000 ^ 96 : Nat) : Int) = 1000000000 ^ 48 * 1000000000 ^ 48 := by rw [← Int.pow_add, Int.natCast_pow]; rfl
      have m4 : nval xs * nval ys < ((1000000000 ^ 96 : Nat) : Int) := by rw [m3]; exact Int.lt_of_le_of_lt m1 m2
      exact (Int.toNat_lt (Int.mul_nonneg a0 b0)).mpr m4
    have HL := Lib.hid hlen
    clear hbo hlen
    go_enter Try.func47, Try.ntmps47
    go_wp2_with fail
    refine (ref_Valid xs A c _ _ w HA.out hm1).mono ?_
    rintro e w' ⟨rfl, rfl⟩
    go_wp2_with fail
    refine (ref_Valid ys B d _ _ _ HB.out hm2).mono ?_
    rintro e w' ⟨rfl, rfl⟩
    go_wp2_with fail
    refine (ref_times xs ys _ _ w HIA.out HIB.out HX.out HY.out (by omega) (by omega)).mono ?_
    rintro e w1 ⟨v, rfl, hs, hb⟩
    have HS := Lib.hid hs.toIn
    have HB1 := Lib.hid hb
    clear hs hb
    go_wp2_with fail
    refine (ref_fit (limbs (nval xs * nval ys).toNat) v w1 HS.out (lok_limbs _) (by have := HL.out; omega)).mono ?_
    rintro e w2 ⟨v2, rfl, hs, hb⟩
    rw [nval_limbs, Int.toNat_natCast] at hs ⊢
    have HS2 := Lib.hid hs
    have HB2 := Lib.hid hb
    clear hs hb
    go_wp2_with fail
    go_ret2
    exact ⟨v2, by rw [mulE, HBO.out]; rfl, by rw [mulV, HBO.out]; exact HS2.out.more HB1.out.size (Nat.le_refl _), bstep HB1.out HB2.out⟩

end Go.Proofs.Ytohfaoclemcfaaa
/- The contract of nat.takeOff. -/
namespace Go.Proofs.Ytohfaoclemcfaaa
open Go.ChangeShapes Go.WideShapes Go.RowKit
set_option linter.unusedVariables false
set_option maxRecDepth 100000

/-- The last two limbs. -/
theorem nval_top {S : List Int} {l : Nat} {a0 a1 : Int} (hl : S.length = l + 2) (h0 : S[l]? = some a0) (h1 : S[l + 1]? = some a1) :
    nval S = nval (S.take l) + 1000000000 ^ l * (a0 + 1000000000 * a1) := by
  have e := nval_append (S.take l) (S.drop l)
  rw [List.take_append_drop, List.length_take, Nat.min_eq_left (by omega)] at e
  rw [e, nval_drop_step h0, nval_drop_step h1, List.drop_eq_nil_of_le (by omega)]
  simp [nval]
theorem nval_top1 {S : List Int} {l : Nat} {a0 : Int} (hl : S.length = l + 1) (h0 : S[l]? = some a0) :
    nval S = nval (S.take l) + 1000000000 ^ l * a0 := by
  have e := nval_append (S.take l) (S.drop l)
  rw [List.take_append_drop, List.length_take, Nat.min_eq_left (by omega)] at e
  rw [e, nval_drop_step h0, List.drop_eq_nil_of_le (by omega)]
  simp [nval]
/-- The guess is not too small. -/
theorem guess_ge {S ys : List Int} {l : Nat} {a0 a1 b1 : Int} (hS : lok S = true) (hy : lok ys = true) (hl : S.length = l + 2) (hly : ys.length = l + 1) (h0 : S[l]? = some a0) (h1 : S[l + 1]? = some a1) (hb : ys[l]? = some b1)
    (hb0 : 0 < b1) (hlt : nval S < 1000000000 * nval ys) :
    nval S / nval ys ≤ min ((a1 * 1000000000 + a0) / b1) 999999999 ∧ 0 ≤ nval S / nval ys ∧ 0 < nval ys := by
  have eS := nval_top hl h0 h1
  have eY := nval_top1 hly hb
  have s0 := nval_nonneg (lok_take hS l)
  have s1 := nval_lt (lok_take hS l)
  have y0 := nval_nonneg (lok_take hy l)
  rw [List.length_take, Nat.min_eq_left (by omega)] at s1
  have p := pow_pos' l
  obtain ⟨P, hP⟩ : ∃ P : Int, P = 1000000000 ^ l := ⟨_, rfl⟩
  rw [← hP] at eS eY s1 p
  have hpb : P * 1 ≤ P * b1 := Int.mul_le_mul_of_nonneg_left (by omega) (Int.le_of_lt p)
  have ypos : 0 < nval ys := by omega
  have snn := nval_nonneg hS
  have q0 : 0 ≤ nval S / nval ys := Int.ediv_nonneg snn (Int.le_of_lt ypos)
  obtain ⟨q, hq⟩ : ∃ q, q = nval S / nval ys := ⟨_, rfl⟩
  have hqS : q * nval ys ≤ nval S := by rw [hq]; exact Int.ediv_mul_le _ (by omega)
  rw [← hq] at q0 ⊢
  refine ⟨?_, q0, ypos⟩
  have h2 : q < 1000000000 := by
    rcases Int.lt_or_le q 1000000000 with h | h
    · exact h
    · have : 1000000000 * nval ys ≤ q * nval ys := Int.mul_le_mul_of_nonneg_right h (Int.le_of_lt ypos)
      omega
  have h3 : q ≤ (a1 * 1000000000 + a0) / b1 := by
    rw [Int.le_ediv_iff_mul_le hb0]
    have m1 : q * (P * b1) ≤ q * nval ys := Int.mul_le_mul_of_nonneg_left (by omega) q0
    have m2 : P * (q * b1) < P * (a1 * 1000000000 + a0 + 1) := by
      have e1 : P * (q * b1) = q * (P * b1) := by rw [Int.mul_left_comm]
      have e2 : P * (a1 * 1000000000 + a0 + 1) = P * (a0 + 1000000000 * a1) + P := by
        have : a1 * 1000000000 + a0 + 1 = (a0 + 1000000000 * a1) + 1 := by omega
        rw [this, Int.mul_add, Int.mul_one]
      omega
    have := Int.lt_of_mul_lt_mul_left m2 (Int.le_of_lt p)
    omega
  omega
/-- The last limb behind a subtraction. -/
theorem last_bd {T : List Int} {l : Nat} {z V : Int} (hd : lok T.dropLast = true) (hl : T.length = l + 1) (hz : T[l]? = some z) (hv : nval T = V) (h1 : -(1000000000 * 1000000000 ^ l) < V) (h2 : V < 1000000000 ^ (l + 1)) :
    -2000000000 < z ∧ z < 2000000000 ∧ (z < 0 ↔ V < 0) := by
  have e := nval_top1 hl hz
  have ht : T.take l = T.dropLast := by rw [List.dropLast_eq_take]; congr 1; omega
  have s0 := nval_nonneg hd
  have s1 := nval_lt hd
  have hdl : T.dropLast.length = l := by rw [List.length_dropLast]; omega
  rw [hdl] at s1
  rw [ht, hv] at e
  have p := pow_pos' l
  rw [Int.pow_succ] at h2
  obtain ⟨P, hP⟩ : ∃ P : Int, P = 1000000000 ^ l := ⟨_, rfl⟩
  rw [← hP] at e s1 p h1 h2
  have a1 : -2000000000 < z := by
    rcases Int.lt_or_le (-2000000000) z with h | h
    · exact h
    · have : P * z ≤ P * (-2000000000) := Int.mul_le_mul_of_nonneg_left h (Int.le_of_lt p)
      omega
  have a2 : z < 2000000000 := by
    rcases Int.lt_or_le z 2000000000 with h | h
    · exact h
    · have : P * 2000000000 ≤ P * z := Int.mul_le_mul_of_nonneg_left h (Int.le_of_lt p)
      omega
  refine ⟨a1, a2, ?_, ?_⟩
  · intro h
    have : P * z ≤ P * (-1) := Int.mul_le_mul_of_nonneg_left (by omega) (Int.le_of_lt p)
    omega
  · intro h
    rcases Int.lt_or_le z 0 with h3 | h3
    · exact h3
    · have := Int.mul_nonneg (Int.le_of_lt p) h3
      omega
theorem quo_of {S Y n : Int} (hy : 0 < Y) (hq : S / Y ≤ n) (hnn : 0 ≤ S - n * Y) : n = S / Y ∧ S - n * Y = S % Y := by
  have h1 : n ≤ S / Y := by rw [Int.le_ediv_iff_mul_le hy]; omega
  have e : n = S / Y := by omega
  refine ⟨e, ?_⟩
  have := Int.emod_add_mul_ediv S Y
  rw [e, Int.mul_comm]; omega
theorem take_state {S ys T : List Int} {l : Nat} {n z : Int} (hS : lok S = true) (hy : lok ys = true) (hl : S.length = l + 2) (hly : ys.length = l + 1) (hlt : nval S < 1000000000 * nval ys) (ypos : 0 < nval ys)
    (hT : T.length = l + 2) (hd : lok T.dropLast = true) (hv : nval T = nval S - n * nval ys) (hz : T[l + 1]? = some z) (n0 : 0 ≤ n) (n1 : n ≤ 999999999) :
    -2000000000 < z ∧ z < 2000000000 ∧ (z < 0 ↔ nval S - n * nval ys < 0) := by
  have y1 := nval_lt hy
  rw [hly] at y1
  have snn := nval_nonneg hS
  have s1 := nval_lt hS
  rw [hl] at s1
  have m : n * nval ys ≤ 999999999 * nval ys := Int.mul_le_mul_of_nonneg_right n1 (Int.le_of_lt ypos)
  have m0 : 0 ≤ n * nval ys := Int.mul_nonneg n0 (Int.le_of_lt ypos)
  have p := pow_pos' (l + 1)
  exact last_bd hd hT hz hv (by omega) (by rw [show l + 1 + 1 = l + 2 from rfl]; omega)
theorem take_last {S ys T : List Int} {l : Nat} (hy : lok ys = true) (hly : ys.length = l + 1) (ypos : 0 < nval ys) (hT : T.length = l + 2) (hd : lok T.dropLast = true) (hv : nval T = nval S % nval ys) : lok T = true := by
  have y1 := nval_lt hy
  rw [hly] at y1
  have h1 := Int.emod_nonneg (nval S) (show nval ys ≠ 0 by omega)
  have h2 := Int.emod_lt_of_pos (nval S) ypos
  refine lok_of_dropLast (by intro h; rw [h] at hT; simp at hT) hd (by omega) ?_
  rw [hT, hv]
  have : (1000000000 : Int) ^ (l + 1) ≤ 1000000000 ^ (l + 2) := pow_le_pow' (by omega)
  omega
end Go.Proofs.Ytohfaoclemcfaaa
/- The contract of nat.takeOff: the walk. -/
namespace Go.Proofs.Ytohfaoclemcfaaa
open Go.ChangeShapes Go.WideShapes Go.RowKit
set_option linter.unusedVariables false
set_option maxRecDepth 100000

theorem Only.drewN {g : Nat} {a w : World} (h : Only g a w) (n : Nat) : Only g a (w.drewN n) := h.trans ⟨rfl, rfl, rfl, rfl, fun _ _ => rfl⟩

theorem laid_laid {Z D E : List Int} {off : Nat} (h : off + D.length ≤ Z.length) (he : E.length = D.length) : laid (laid Z off D) off E = laid Z off E := by
  have h1 : (laid Z off D).take off = Z.take off := by
    unfold laid; rw [List.take_left' (by rw [List.length_take]; omega)]
  have h2 : (laid Z off D).drop (off + D.length) = Z.drop (off + D.length) := by
    unfold laid
    rw [← List.append_assoc, List.drop_left' (by rw [List.length_append, List.length_take]; omega)]
  unfold laid at h1 h2 ⊢
  rw [he, h1, h2]
theorem add_call (Z T ys : List Int) (l g off c c2 lo hi : Nat) (B : Option Addr) (w : World) (n : Int) (hR : Row w g Z) (hZ : off + (l + 2) ≤ Z.length) (hS : ∀ j, j < l + 2 → Z[off + j]? = T[j]?) (hB : Holds w lo hi B ys) (hg : g < lo ∨ hi ≤ g)
    (hT : T.length = l + 2) (hly : ys.length = l + 1) (hl1 : l ≤ 1000) (hd : lok T.dropLast = true) (hyk : lok ys = true) (hz : ∀ z, T[l + 1]? = some z → -4000000000000000000 < z ∧ z < 4000000000000000000) (n1 : -1000000000 < n) (n2 : n < 1000000000) :
    Calls Try.prog 95 #[.slice (some ⟨g, off, none⟩) (l + 2) c, .slice B (l + 1) c2, .int .i64 n] w
      fun e w' => e = .returned (.tuple #[]) ∧ Row w' g (laid Z off (addT T ys n 0)) ∧ Only g w w' := by
  have h := nat_addTimes Z T ys n g off c c2 lo hi B w hR (by rw [hT]; exact hZ) (fun j hj => hS j (by omega)) hB hg (by omega) (by omega) hd (fun z hz' => hz z (by rw [hT] at hz'; exact hz')) hyk n1 n2
  rw [hT, hly] at h; exact h

set_option maxHeartbeats 3200000 in
theorem nat_takeOff (Z S ys : List Int) (l g off c c2 lo hi : Nat) (B : Option Addr) (w : World) (b1 : Int)
    (hR : Row w g Z) (hZ : off + (l + 2) ≤ Z.length) (hS : ∀ j, j < l + 2 → Z[off + j]? = S[j]?) (hB : Holds w lo hi B ys) (hg : g < lo ∨ hi ≤ g)
    (hl : S.length = l + 2) (hly : ys.length = l + 1) (hl1 : l ≤ 1000) (hSk : lok S = true) (hyk : lok ys = true) (hb : ys[l]? = some b1) (hb0 : 0 < b1) (hlt : nval S < 1000000000 * nval ys) :
    Calls Try.prog 92 #[.slice (some ⟨g, off, none⟩) (l + 2) c, .slice B (l + 1) c2] w
      fun e w' => e = .returned (.int .i64 (nval S / nval ys)) ∧ ∃ T, T.length = l + 2 ∧ lok T = true ∧ nval T = nval S % nval ys ∧ Row w' g (laid Z off T) ∧ Only g w w' := by
  obtain ⟨a0, h0⟩ : ∃ a0, S[l]? = some a0 := ⟨_, List.getElem?_eq_getElem (by omega)⟩
  obtain ⟨a1, h1⟩ : ∃ a1, S[l + 1]? = some a1 := ⟨_, List.getElem?_eq_getElem (by omega)⟩
  have hgs := guess_ge hSk hyk hl hly h0 h1 hb hb0 hlt
  have hc0 := hR.cell (i := off + l) (z := a0) (by rw [hS l (by omega), h0])
  have hc1 := hR.cell (i := off + (l + 1)) (z := a1) (by rw [hS (l + 1) (by omega), h1])
  obtain ⟨b, offb, hBe, _, _, hcb⟩ := hB l b1 hb
  have ab0 := lok_at hSk h0
  have ab1 := lok_at hSk h1
  have bb1 := lok_at hyk hb
  obtain ⟨G, hG⟩ : ∃ G, (a1 * 1000000000 + a0) / b1 = G := ⟨_, rfl⟩
  have hGt : (a1 * 1000000000 + a0).tdiv b1 = G := by rw [Int.tdiv_eq_ediv_of_nonneg (by omega), hG]
  have G0 : 0 ≤ G := by rw [← hG]; exact Int.ediv_nonneg (by omega) (by omega)
  have G1 : G ≤ 999999999999999999 := by
    have h1 : (a1 * 1000000000 + a0) / b1 ≤ a1 * 1000000000 + a0 := Int.ediv_le_self _ (by omega)
    omega
  rw [hG] at hgs
  obtain ⟨N, hN⟩ : ∃ N, min G 999999999 = N := ⟨_, rfl⟩
  rw [hN] at hgs
  have N0 : 0 ≤ N := by omega
  have N1 : N ≤ 999999999 := by omega
  have n0 : ¬ b1 = 0 := by omega
  have n1 : (b1 == 0) = false := beq_false_of_ne n0
  obtain ⟨a00, a01⟩ := ab0
  obtain ⟨a10, a11⟩ := ab1
  obtain ⟨b10, b11⟩ := bb1
  have HR := Lib.hid hR
  have HB := Lib.hid hB
  have HZ := Lib.hid hZ
  have HS := Lib.hid hS
  have HSK := Lib.hid hSk
  have HYK := Lib.hid hyk
  have HL := Lib.hid hl
  have HLY := Lib.hid hly
  have HLT := Lib.hid hlt
  have HGS := Lib.hid hgs
  subst hBe
  clear hR hB hZ hS hSk hyk hl hly hlt hgs h0 h1 hb hG
  go_enter Try.func92, Try.ntmps92
  go_wp2_with fail
  go_quiet (fail)
  go_wp2_with fail
  refine (add_call Z S ys l g off c c2 lo hi _ (w.drewN nq) (-N) (HR.out.keep rfl) HZ.out HS.out (HB.out.keep fun _ _ _ => rfl) hg HL.out HLY.out hl1 (by rw [List.dropLast_eq_take]; exact lok_take HSK.out _) HYK.out (fun z hz => by have := lok_at HSK.out hz; omega) (by omega) (by omega)).mono ?_
  rintro e w1 ⟨rfl, hr1, ho1⟩
  have HR1 := Lib.hid hr1
  have HO1 := Lib.hid (((Only.refl g w).drewN nq).trans ho1)
  have HT1 := Lib.hid (show (addT S ys (-N) 0).length = l + 2 by rw [addT_length, HL.out])
  have HV1 := Lib.hid (show nval (addT S ys (-N) 0) = nval S - N * nval ys by rw [addT_val _ _ _ _ (by rw [HL.out, HLY.out]; omega), Int.neg_mul]; omega)
  clear hr1 ho1 hc0 hc1 hcb
  go_wp2_with fail
  go_loopw [6] (fun nv wr => ∃ (nn : Int) (T : List Int), nv = .int .i64 nn ∧ nval S / nval ys ≤ nn ∧ 0 ≤ nn ∧ nn ≤ 999999999 ∧ T.length = l + 2 ∧ lok T.dropLast = true ∧ nval T = nval S - nn * nval ys ∧ Row wr g (laid Z off T) ∧ Only g w wr) (fun nv _ => (intOf nv).toNat)
  case atStart => exact ⟨N, _, rfl, HGS.out.1, N0, N1, HT1.out, addT_lok _ _ _ _, HV1.out, HR1.out, HO1.out⟩
  case round =>
    obtain ⟨nn, T, rfl, hq, nn0, nn1, hT, hd, hv, hrow, hon⟩ := hrel
    obtain ⟨z, hz⟩ : ∃ z, T[l + 1]? = some z := ⟨_, List.getElem?_eq_getElem (by omega)⟩
    have hcell := hrow.cell (i := off + (l + 1)) (z := z) (by rw [laid_in (by rw [hT]; exact HZ.out) (by omega)]; exact hz)
    have hst := take_state HSK.out HYK.out HL.out HLY.out HLT.out HGS.out.2.2 hT hd hv hz nn0 nn1
    have HQ := Lib.hid hq
    have HT := Lib.hid hT
    have HD := Lib.hid hd
    have HV := Lib.hid hv
    have HRW := Lib.hid hrow
    have HON := Lib.hid hon
    have HZZ := Lib.hid hz
    obtain ⟨z0, z1, z2⟩ := hst
    clear hq hT hd hv hrow hon hz
    rcases Int.lt_or_le z 0 with hneg | hnn
    · have hlt2 := z2.mp hneg
      have hq1 : nval S / nval ys ≤ nn - 1 := by
        rcases Int.lt_or_le (nval S / nval ys) nn with h | h
        · omega
        · exfalso
          have e : nn = nval S / nval ys := by have := HQ.out; omega
          have := Int.ediv_mul_le (nval S) (show nval ys ≠ 0 by have := HGS.out.2.2; omega)
          rw [← e] at this; omega
      have hq0 : 0 ≤ nn - 1 := by have := HGS.out.2.1; omega
      have HQ1 := Lib.hid hq1
      clear hlt2 hq1 z2
      go_wp2_with fail
      refine (add_call (laid Z off T) T ys l g off c c2 lo hi _ _ 1 HRW.out (by rw [laid_length (by rw [HT.out]; exact HZ.out)]; exact HZ.out) (fun j hj => laid_in (by rw [HT.out]; exact HZ.out) (by rw [HT.out]; exact hj)) (HON.out.holds HB.out hg) hg HT.out HLY.out hl1 HD.out HYK.out (fun z' hz' => by rw [HZZ.out] at hz'; cases hz'; omega) (by omega) (by omega)).mono ?_
      rintro e w2 ⟨rfl, hr2, ho2⟩
      have HR2 := Lib.hid (show Row w2 g (laid Z off (addT T ys 1 0)) by rw [← laid_laid (D := T) (by rw [HT.out]; exact HZ.out) (addT_length _ _ _ _)]; exact hr2)
      have HO2 := Lib.hid (HON.out.trans ho2)
      clear hr2 ho2 hcell
      go_wp2_with fail
      go_roundw
      case rel =>
        refine ⟨nn - 1, _, rfl, HQ1.out, hq0, by omega, by rw [addT_length, HT.out], addT_lok _ _ _ _, ?_, HR2.out, HO2.out⟩
        rw [addT_val _ _ _ _ (by rw [HT.out, HLY.out]; omega), HV.out, Int.sub_mul]; omega
      case measure => simp [intOf]; omega
    · have hge : 0 ≤ nval S - nn * nval ys := by
        rcases Int.lt_or_le (nval S - nn * nval ys) 0 with h | h
        · have := z2.mpr h; omega
        · exact h
      have hqq := quo_of HGS.out.2.2 HQ.out hge
      have HQQ := Lib.hid hqq
      have hz' : decide (z < 0) = false := decide_eq_false (by omega)
      clear hge hqq z2
      go_wp2_with fail
      go_ret
      exact ⟨ret_int HQQ.out.1, T, HT.out, take_last (S := S) HYK.out HLY.out HGS.out.2.2 HT.out HD.out (by rw [HV.out, HQQ.out.2]), by rw [HV.out, HQQ.out.2], HRW.out, HON.out⟩
end Go.Proofs.Ytohfaoclemcfaaa
/- The contract of nat.divided. -/
namespace Go.Proofs.Ytohfaoclemcfaaa
open Go.ChangeShapes Go.WideShapes Go.RowKit
set_option linter.unusedVariables false
set_option maxRecDepth 100000

theorem divd_step {Q zs : List Int} {j : Nat} {z r n : Int} (hj : j < Q.length) (hz : zs[j]? = some z) (hn : 0 < n) (hv : nval (Q.drop (j + 1)) * n + r = nval (zs.drop (j + 1))) :
    nval ((Q.set j ((r * 1000000000 + z) / n)).drop j) * n + (r * 1000000000 + z) % n = nval (zs.drop j) := by
  have e1 : (Q.set j ((r * 1000000000 + z) / n))[j]? = some ((r * 1000000000 + z) / n) := List.getElem?_set_self hj
  rw [nval_drop_step e1, nval_drop_step hz, drop_set_above (by omega), ← hv, Int.add_mul, Int.mul_assoc]
  have e := Int.emod_add_mul_ediv (r * 1000000000 + z) n
  rw [Int.mul_comm ((r * 1000000000 + z) / n) n]
  omega
theorem divd_bd {z r n : Int} (hn : 0 < n) (h0 : 0 ≤ r) (h1 : r < n) (z0 : 0 ≤ z) (z1 : z < 1000000000) : 0 ≤ (r * 1000000000 + z) / n ∧ (r * 1000000000 + z) / n < 1000000000 ∧ 0 ≤ (r * 1000000000 + z) % n ∧ (r * 1000000000 + z) % n < n := by
  refine ⟨Int.ediv_nonneg (by omega) (by omega), ?_, Int.emod_nonneg _ (by omega), Int.emod_lt_of_pos _ hn⟩
  rw [Int.ediv_lt_iff_lt_mul hn]
  have : 1000000000 * (r + 1) ≤ 1000000000 * n := Int.mul_le_mul_of_nonneg_left (by omega) (by omega)
  omega
theorem divd_end {V W r n : Int} (hn : 0 < n) (h0 : 0 ≤ r) (h1 : r < n) (h : W * n + r = V) : W = V / n := by
  rw [← h, Int.add_comm, Int.add_mul_ediv_right _ _ (by omega), Int.ediv_eq_zero_of_lt h0 h1, Int.zero_add]

set_option maxHeartbeats 1600000 in
theorem nat_divided (zs : List Int) (A : Option Addr) (c lo hi : Nat) (n : Int) (w : World) (hS : Holds w lo hi A zs) (hh : hi ≤ w.heap.size) (hk : lok zs = true) (hl : zs.length ≤ 100000) (n0 : 0 < n) (n1 : n < 1000000000) :
    Calls Try.prog 94 #[.slice A zs.length c, .int .i64 n] w
      fun e w' => e = .returned (.slice (some ⟨w.heap.size, 0, none⟩) zs.length zs.length) ∧ ∃ Q, Q.length = zs.length ∧ lok Q = true ∧ nval Q = nval zs / n ∧ Row w' w.heap.size Q ∧ Below w.heap.size w w' := by
  obtain ⟨i0, hi0, hz0, hz1, hz2⟩ := info_parts info_int
  have HS := Lib.hid hS
  have HK := Lib.hid hk
  have m0 : ¬ n = 0 := by omega
  have m1 : (n == 0) = false := beq_false_of_ne m0
  clear hS hk
  go_enter Try.func94, Try.ntmps94
  go_wp2_with (first
    | (at_make; refine wpList_make_full _ rfl _ _ 25 rfl w.heap.size 3 i0 (.int .i64 0) 1 Try.underlying25 hi0 hz0 hz1 .i64 .i64 _ _ zs.length rfl rfl rfl rfl (by rw [hz2]; omega) (by unfold maxLen; omega) (Nat.le_refl _) ?_; intro w1 hown hgrow; refine Hid.out ?_)
    | fail)
  refine Lib.hid ?_
  have HR0 := Lib.hid (show Row w1 w.heap.size (List.replicate zs.length 0) from row_of_heap (heap_of_made hown))
  have HB0 := Lib.hid (show Below w.heap.size w w1 from (Below.refl _ _).grown hgrow (Nat.le_refl _) (fun k hk => by cases hk))
  clear hown hgrow
  go_wp2_with fail
  go_loopw [6, 14] (fun rv i wr => ∃ (k : Nat) (r : Int) (Q : List Int), k ≤ zs.length ∧ i = .int .i64 k ∧ rv = .int .i64 r ∧ 0 ≤ r ∧ r < n ∧ Q.length = zs.length ∧ lok Q = true ∧ nval (Q.drop (zs.length - k)) * n + r = nval (zs.drop (zs.length - k)) ∧ Row wr w.heap.size Q ∧ Below w.heap.size w wr) (fun _ i _ => zs.length - (intOf i).toNat)
  case atStart => exact ⟨0, 0, _, Nat.zero_le _, rfl, rfl, by omega, n0, by simp, lok_zeros _, by simp [nval], HR0.out, HB0.out⟩
  case round =>
    obtain ⟨k, r, Q, hk, rfl, rfl, r0, r1, hQ, hQk, hQv, hrow, hbel⟩ := hrel
    have HQ := Lib.hid hQ
    have HQK := Lib.hid hQk
    have HQV := Lib.hid hQv
    have HR := Lib.hid hrow
    have HB := Lib.hid hbel
    clear hQ hQk hQv hrow hbel
    rcases Nat.lt_or_ge k zs.length with hlt | hge
    · obtain ⟨j, hj⟩ : ∃ j, j = zs.length - 1 - k := ⟨_, rfl⟩
      obtain ⟨z, hz⟩ : ∃ z, zs[j]? = some z := ⟨_, List.getElem?_eq_getElem (by omega)⟩
      obtain ⟨b, off, rfl, _, _, hcell⟩ := (HS.out.below HB.out hh) j z hz
      have zb := lok_at HK.out hz
      have hb := divd_bd n0 r0 r1 zb.1 zb.2
      have hjQ : j < Q.length := by rw [HQ.out]; omega
      have e1 : zs.length - k = j + 1 := by omega
      have hv := HQV.out
      rw [e1] at hv
      have hst := divd_step hjQ hz n0 hv
      obtain ⟨q, hqe⟩ : ∃ q, q = Q.getD j 0 := ⟨_, rfl⟩
      have hcq := HR.out.cell (i := j) (z := q) (by rw [hqe, List.getD_eq_getElem?_getD, List.getElem?_eq_getElem hjQ]; rfl)
      have hfr := HR.out.frozen j
      obtain ⟨z0, z1⟩ := zb
      have ej : (zs.length : Int) - 1 - k = (j : Int) := by omega
      have hjl : j < zs.length := by omega
      have t0 : (r * 1000000000 + z).tdiv n = (r * 1000000000 + z) / n := Int.tdiv_eq_ediv_of_nonneg (by omega)
      have t1 : (r * 1000000000 + z).tmod n = (r * 1000000000 + z) % n := Int.tmod_eq_emod_of_nonneg (by omega)
      have e2 : zs.length - (k + 1) = j := by omega
      have E2 := Lib.hid e2
      have hw : IntKind.i64.wrap ((r * 1000000000 + z) / n) = (r * 1000000000 + z) / n := wrap_id (by omega) (by omega)
      have HST := Lib.hid hst
      obtain ⟨b0, b1, b2, b3⟩ := hb
      clear hz hj hjQ e1 hv hst hqe e2
      go_wp2_with fail
      go_region_with (fail)
      go_wp2_with fail
      go_roundw
      case rel =>
        refine ⟨k + 1, _, Q.set j ((r * 1000000000 + z) / n), by omega, by go_num, rfl, b2, b3, by rw [List.length_set]; exact HQ.out, lok_set HQK.out _ b0 b1, by rw [E2.out]; exact HST.out, ?_, ?_⟩
        · exact Row.store (w := wr.drew) (HR.out.keep rfl) j _
        · exact (HB.out.drew).setCell (p := ⟨w.heap.size, j, none⟩) (Nat.le_refl _) _
      case measure => simp [intOf]; omega
    · obtain rfl : k = zs.length := by omega
      have hv := HQV.out
      rw [Nat.sub_self, List.drop_zero, List.drop_zero] at hv
      have HV := Lib.hid (divd_end n0 r0 r1 hv)
      clear hv
      go_wp2_with fail
      go_ret
      exact ⟨rfl, Q, HQ.out, HQK.out, HV.out, HR.out, HB.out⟩
end Go.Proofs.Ytohfaoclemcfaaa
/- Long division: the arithmetic. No walk. -/
namespace Go.Proofs.Ytohfaoclemcfaaa
open Go.ChangeShapes Go.WideShapes Go.RowKit
set_option linter.unusedVariables false
set_option maxRecDepth 100000

theorem fac_bd {b : Int} (h0 : 0 < b) (h1 : b < 1000000000) : 1 ≤ 1000000000 / (b + 1) ∧ 1000000000 / (b + 1) < 1000000000 ∧ 1000000000 / (b + 1) * (b + 1) ≤ 1000000000 := by
  refine ⟨?_, ?_, Int.ediv_mul_le _ (by omega)⟩
  · rw [Int.le_ediv_iff_mul_le (by omega)]; omega
  · rw [Int.ediv_lt_iff_lt_mul (by omega)]; omega
theorem top_ge {ys : List Int} {l : Nat} {b : Int} (hy : lok ys = true) (hl : ys.length = l + 1) (hb : ys[l]? = some b) (h0 : 0 < b) : 1000000000 ^ l ≤ nval ys ∧ nval ys < (b + 1) * 1000000000 ^ l := by
  have e := nval_top1 hl hb
  have s0 := nval_nonneg (lok_take hy l)
  have s1 := nval_lt (lok_take hy l)
  rw [List.length_take, Nat.min_eq_left (by omega)] at s1
  have p := pow_pos' l
  obtain ⟨P, hP⟩ : ∃ P : Int, P = 1000000000 ^ l := ⟨_, rfl⟩
  rw [← hP] at e s1 p ⊢
  have m : P * 1 ≤ P * b := Int.mul_le_mul_of_nonneg_left (by omega) (Int.le_of_lt p)
  have m2 : (b + 1) * P = P * b + P := by rw [Int.add_mul, Int.one_mul, Int.mul_comm]
  omega
/-- The dividend, times the factor. -/
theorem rest_ok {xs : List Int} {f : Int} (hx : lok xs = true) (f0 : 0 ≤ f) (f1 : f < 1000000000) :
    lok (addT (List.replicate (xs.length + 1) 0) xs f 0) = true ∧ nval (addT (List.replicate (xs.length + 1) 0) xs f 0) = f * nval xs := by
  have hv : nval (addT (List.replicate (xs.length + 1) 0) xs f 0) = f * nval xs := by rw [addT_val _ _ _ _ (by simp), nval_zeros]; omega
  have x0 := nval_nonneg hx
  have x1 := nval_lt hx
  refine ⟨lok_of_dropLast ?_ (addT_lok _ _ _ _) (by rw [hv]; exact Int.mul_nonneg f0 x0) ?_, hv⟩
  · intro h; have := addT_length (List.replicate (xs.length + 1) 0) xs f 0; rw [h] at this; simp at this
  · rw [hv, addT_length, List.length_replicate, Int.pow_succ]
    have : f * nval xs ≤ 999999999 * nval xs := Int.mul_le_mul_of_nonneg_right (by omega) x0
    omega
/-- The divisor, times the factor, has no limb more. -/
theorem divisor_ok {ys D0 : List Int} {l : Nat} {b f : Int} (hy : lok ys = true) (hl : ys.length = l + 1) (hb : ys[l]? = some b) (h0 : 0 < b) (f0 : 1 ≤ f) (hf : f * (b + 1) ≤ 1000000000)
    (hk : lok D0 = true) (hv : nval D0 = f * nval ys) (hD : D0.length = l + 2) :
    (D0.take (l + 1)).length = l + 1 ∧ lok (D0.take (l + 1)) = true ∧ nval (D0.take (l + 1)) = f * nval ys ∧ ∃ d, (D0.take (l + 1))[l]? = some d ∧ 0 < d := by
  have t := top_ge hy hl hb h0
  have hlen : (D0.take (l + 1)).length = l + 1 := by rw [List.length_take]; omega
  have hok := lok_take hk (l + 1)
  have e := nval_append (D0.take (l + 1)) (D0.drop (l + 1))
  rw [List.take_append_drop, hlen, hv] at e
  have s0 := nval_nonneg hok
  have u0 := nval_nonneg (lok_drop hk (l + 1))
  have p := pow_pos' (l + 1)
  have p' := pow_pos' l
  have hlt : f * nval ys < 1000000000 ^ (l + 1) := by
    have m1 : f * nval ys < f * ((b + 1) * 1000000000 ^ l) := Int.mul_lt_mul_of_pos_left t.2 (by omega)
    have m2 : f * (b + 1) * 1000000000 ^ l ≤ 1000000000 * 1000000000 ^ l := Int.mul_le_mul_of_nonneg_right hf (Int.le_of_lt p')
    rw [Int.mul_assoc] at m2
    rw [Int.pow_succ]; omega
  have hz : nval (D0.drop (l + 1)) = 0 := by
    rcases Int.lt_or_eq_of_le u0 with h | h
    · have : (1000000000 : Int) ^ (l + 1) * 1 ≤ 1000000000 ^ (l + 1) * nval (D0.drop (l + 1)) := Int.mul_le_mul_of_nonneg_left (by omega) (Int.le_of_lt p)
      omega
    · exact h.symm
  rw [hz, Int.mul_zero, Int.add_zero] at e
  refine ⟨hlen, hok, e.symm, ?_⟩
  obtain ⟨d, hd⟩ : ∃ d, (D0.take (l + 1))[l]? = some d := ⟨_, List.getElem?_eq_getElem (by omega)⟩
  refine ⟨d, hd, ?_⟩
  have d0 := (lok_at hok hd).1
  rcases Int.lt_or_eq_of_le d0 with h | h
  · exact h
  · exfalso
    have e2 := nval_top1 hlen hd
    have s1 := nval_lt (lok_take hok l)
    rw [List.length_take, Nat.min_eq_left (by omega)] at s1
    rw [← h, Int.mul_zero, Int.add_zero] at e2
    have m : 1 * nval ys ≤ f * nval ys := Int.mul_le_mul_of_nonneg_right f0 (by omega)
    omega

/-- The state of the division with t limbs of the quotient to come. -/
structure DInv (X Dv : Int) (la nq : Nat) (R Q : List Int) (t : Nat) : Prop where
  rl : R.length = la + 1
  rk : lok R = true
  ql : Q.length = nq
  qk : lok Q = true
  val : nval (Q.drop t) * Dv * 1000000000 ^ t + nval R = X
  lt : nval (R.drop t) < Dv
theorem dinv_start {xs ys R0 : List Int} {l nq : Nat} {b f : Int} (hx : lok xs = true) (hy : lok ys = true) (hl : ys.length = l + 1) (hb : ys[l]? = some b) (h0 : 0 < b) (f0 : 1 ≤ f)
    (hR : R0.length = xs.length + 1) (hRk : lok R0 = true) (hRv : nval R0 = f * nval xs) (hn : nq + l = xs.length) : DInv (f * nval xs) (f * nval ys) xs.length nq R0 (List.replicate nq 0) nq := by
  refine ⟨hR, hRk, by simp, lok_zeros _, ?_, ?_⟩
  · rw [List.drop_replicate, nval_zeros, hRv]; simp
  · have e := nval_append (R0.take nq) (R0.drop nq)
    rw [List.take_append_drop, List.length_take, Nat.min_eq_left (by omega), hRv] at e
    have s0 := nval_nonneg (lok_take hRk nq)
    have x1 := nval_lt hx
    have t := top_ge hy hl hb h0
    have p := pow_pos' nq
    have e2 : (1000000000 : Int) ^ xs.length = 1000000000 ^ nq * 1000000000 ^ l := by rw [← hn, Int.pow_add]
    have m1 : f * nval xs < f * (1000000000 ^ nq * 1000000000 ^ l) := by rw [← e2]; exact Int.mul_lt_mul_of_pos_left x1 (by omega)
    have m2 : f * 1000000000 ^ l ≤ f * nval ys := Int.mul_le_mul_of_nonneg_left t.1 (by omega)
    have m3 : (1000000000 : Int) ^ nq * nval (R0.drop nq) < 1000000000 ^ nq * (f * 1000000000 ^ l) := by
      have : f * ((1000000000 : Int) ^ nq * 1000000000 ^ l) = 1000000000 ^ nq * (f * 1000000000 ^ l) := by rw [Int.mul_left_comm]
      omega
    have := Int.lt_of_mul_lt_mul_left m3 (Int.le_of_lt p)
    omega
theorem laid_drop {Z D : List Int} {off : Nat} (h : off ≤ Z.length) : (laid Z off D).drop off = D ++ Z.drop (off + D.length) := by
  unfold laid; rw [List.drop_left' (by rw [List.length_take]; omega)]
theorem dinv_win {X Dv : Int} {la nq l a : Nat} {R Q D : List Int} (h : DInv X Dv la nq R Q (a + 1)) (ha : a + (l + 2) ≤ la + 1) (hD : lok D = true) (hDl : D.length = l + 1) (hDv : nval D = Dv) :
    nval (win R a (l + 2)) < 1000000000 * Dv ∧ nval (R.drop (a + (l + 2))) = 0 := by
  have e1 := nval_drop_getD R a
  have e2 : R.drop a = win R a (l + 2) ++ R.drop (a + (l + 2)) := by unfold win; rw [← List.drop_drop, List.take_append_drop]
  have hw : (win R a (l + 2)).length = l + 2 := win_length (by rw [h.rl]; exact ha)
  have e3 := congrArg nval e2
  rw [nval_append, hw] at e3
  have r0 := lok_getD h.rk a
  have w0 := nval_nonneg (lok_take (lok_drop h.rk a) (l + 2))
  have u0 := nval_nonneg (lok_drop h.rk (a + (l + 2)))
  have hlt := h.lt
  have d1 := nval_lt hD
  rw [hDl, hDv] at d1
  have p := pow_pos' (l + 2)
  have hlt2 : nval (R.drop a) < 1000000000 * Dv := by omega
  have hp := Int.mul_nonneg (Int.le_of_lt p) u0
  refine ⟨by change 0 ≤ nval (win R a (l + 2)) at w0; omega, ?_⟩
  rcases Int.lt_or_eq_of_le u0 with h2 | h2
  · exfalso
    have : (1000000000 : Int) ^ (l + 2) * 1 ≤ 1000000000 ^ (l + 2) * nval (R.drop (a + (l + 2))) := Int.mul_le_mul_of_nonneg_left (by omega) (Int.le_of_lt p)
    have e4 : (1000000000 : Int) ^ (l + 2) = 1000000000 * 1000000000 ^ (l + 1) := by rw [Int.pow_succ, Int.mul_comm]
    change 0 ≤ nval (win R a (l + 2)) at w0
    omega
  · exact h2.symm
theorem dinv_step {X Dv q : Int} {la nq l a : Nat} {R Q T D : List Int} (h : DInv X Dv la nq R Q (a + 1)) (ha : a + (l + 2) ≤ la + 1) (haq : a < nq) (hD : lok D = true) (hDl : D.length = l + 1) (hDv : nval D = Dv) (dpos : 0 < Dv)
    (hq : q = nval (win R a (l + 2)) / Dv) (hT : T.length = l + 2) (hTk : lok T = true) (hTv : nval T = nval (win R a (l + 2)) % Dv) :
    DInv X Dv la nq (laid R a T) (Q.set a q) a ∧ 0 ≤ q ∧ q < 1000000000 := by
  obtain ⟨hw, hz⟩ := dinv_win h ha hD hDl hDv
  have w0 := nval_nonneg (lok_take (lok_drop h.rk a) (l + 2))
  change 0 ≤ nval (win R a (l + 2)) at w0
  have q0 : 0 ≤ q := by rw [hq]; exact Int.ediv_nonneg w0 (Int.le_of_lt dpos)
  have q1 : q < 1000000000 := by rw [hq, Int.ediv_lt_iff_lt_mul dpos]; exact hw
  have hal : a + (l + 2) ≤ R.length := by rw [h.rl]; exact ha
  have eR := win_split hal
  have eR' := laid_split hal hT
  rw [hz, Int.mul_zero, Int.add_zero] at eR eR'
  have eQ : nval ((Q.set a q).drop a) = q + 1000000000 * nval (Q.drop (a + 1)) := by
    rw [nval_drop_step (List.getElem?_set_self (by rw [h.ql]; exact haq)), drop_set_above (by omega)]
  have hem := Int.emod_add_mul_ediv (nval (win R a (l + 2))) Dv
  rw [← hq, ← hTv] at hem
  refine ⟨⟨by rw [laid_length (by rw [hT]; exact hal)]; exact h.rl, laid_lok h.rk hTk, by rw [List.length_set]; exact h.ql, lok_set h.qk _ q0 q1, ?_, ?_⟩, q0, q1⟩
  · have hv := h.val
    rw [eR, ← hem, Int.pow_succ] at hv
    rw [eR', eQ, ← hv]
    obtain ⟨P, hP⟩ : ∃ P : Int, P = 1000000000 ^ a := ⟨_, rfl⟩
    rw [← hP]
    grind
  · rw [laid_drop (by omega), hT, nval_append, hT, hz, Int.mul_zero, Int.add_zero, hTv]
    exact Int.emod_lt_of_pos _ dpos
theorem dinv_end {x y f : Int} {la nq : Nat} {R Q : List Int} (h : DInv (f * x) (f * y) la nq R Q 0) (f0 : 0 < f) : nval Q = x / y ∧ nval R / f = x % y := by
  have hv := h.val
  have hlt := h.lt
  rw [List.drop_zero] at hv hlt
  have r0 := nval_nonneg h.rk
  obtain ⟨q, hq⟩ : ∃ q, q = nval Q := ⟨_, rfl⟩
  obtain ⟨r, hr⟩ : ∃ r, r = nval R := ⟨_, rfl⟩
  rw [← hq, ← hr] at hv ⊢
  rw [← hr] at r0 hlt
  have e : r = f * (x - q * y) := by
    have : q * (f * y) * 1000000000 ^ 0 + r = f * x := hv
    rw [Int.pow_zero, Int.mul_one] at this
    grind
  rw [e] at r0 hlt ⊢
  have a0 : 0 ≤ x - q * y := by
    rcases Int.lt_or_le (x - q * y) 0 with h | h
    · have : f * (x - q * y) ≤ f * (-1) := Int.mul_le_mul_of_nonneg_left (by omega) (Int.le_of_lt f0)
      omega
    · exact h
  have a1 : x - q * y < y := Int.lt_of_mul_lt_mul_left hlt (Int.le_of_lt f0)
  rw [Int.mul_ediv_cancel_left _ (by omega)]
  have hx : x = (x - q * y) + q * y := by omega
  constructor
  · rw [hx, Int.add_mul_ediv_right _ _ (by omega), Int.ediv_eq_zero_of_lt a0 a1]
    have : x - q * y + q * y - q * y = x - q * y := by omega
    omega
  · have h2 : x % y = ((x - q * y) + q * y) % y := by rw [← hx]
    rw [h2, Int.add_mul_emod_self_right, Int.emod_eq_of_lt a0 a1]
end Go.Proofs.Ytohfaoclemcfaaa
