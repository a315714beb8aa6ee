/- The walk of NatTexts. -/
import Derived.Test.YtmbpcjnlniidkaaDoorNatW1
namespace Go.Proofs.YtmbpcjnlniidkaaDoor
open Go.ChangeShapes Go.WideShapes Go.RowKit
set_option linter.unusedVariables false

theorem dgt {d : Nat} (h : d < 10) : (UInt8.ofNat (48 + d)).toNat = 48 + d := by
  show (48 + d) % 256 = 48 + d
  omega
theorem rev_ind {P : List UInt8 → Prop} (h0 : P []) (h1 : ∀ l a, P l → P (l ++ [a])) (L : List UInt8) : P L := by
  have h : ∀ l : List UInt8, P l.reverse := by
    intro l
    induction l with
    | nil => exact h0
    | cons a l ih => rw [List.reverse_cons]; exact h1 _ _ ih
  have := h L.reverse
  rwa [List.reverse_reverse] at this
theorem dval_dec (n : Nat) : dval (Lib.decDigits n) = n := by
  induction n using Nat.strongRecOn with
  | ind n ih =>
    rw [Lib.decDigits]
    split
    · rename_i h
      have := dgt h
      show 0 * 10 + ((UInt8.ofNat (48 + n)).toNat - 48) = n
      omega
    · rename_i h
      have := dgt (d := n % 10) (by omega)
      rw [dval_snoc, ih _ (by omega), this]; omega
theorem dec_all (n : Nat) : (Lib.decDigits n).all isD = true := by
  induction n using Nat.strongRecOn with
  | ind n ih =>
    rw [Lib.decDigits]
    split
    · rename_i h
      have := dgt h
      rw [List.all_cons, isD_yes (by omega) (by omega)]; rfl
    · rename_i h
      have := dgt (d := n % 10) (by omega)
      rw [List.all_append, ih _ (by omega), List.all_cons, isD_yes (by omega) (by omega)]; rfl
theorem dec_ne (n : Nat) : Lib.decDigits n ≠ [] := by
  rw [Lib.decDigits]; split <;> simp
theorem dec_head {n : Nat} (h : 0 < n) : (Lib.decDigits n).headD 0 ≠ 48 := by
  induction n using Nat.strongRecOn with
  | ind n ih =>
    rw [Lib.decDigits]
    split
    · rename_i h10
      intro h2
      have h3 : (UInt8.ofNat (48 + n)).toNat = 48 := congrArg UInt8.toNat h2
      rw [dgt h10] at h3; omega
    · rename_i h10
      have h1 := ih (n / 10) (by omega) (by omega)
      cases hd : Lib.decDigits (n / 10) with
      | nil => exact absurd hd (dec_ne _)
      | cons a l => rw [hd] at h1; simpa using h1
theorem dec_ok (n : Nat) : decOk (Lib.decDigits n) = true := by
  unfold decOk
  rw [dec_all]
  rcases Nat.eq_zero_or_pos n with rfl | h
  · have : Lib.decDigits 0 = [48] := by rw [Lib.decDigits_one (by decide)]; rfl
    rw [this]; rfl
  · have h1 := dec_head h
    have h2 := dec_ne n
    have h3 : (Lib.decDigits n).isEmpty = false := by cases hd : Lib.decDigits n with
      | nil => exact absurd hd h2
      | cons a l => rfl
    rw [h3]
    have h4 : ((Lib.decDigits n).headD 0 != 48) = true := by simpa using h1
    rw [h4]; simp
theorem dec_len {k : Nat} : ∀ {n : Nat}, n < 10 ^ (k + 1) → (Lib.decDigits n).length ≤ k + 1 := by
  induction k with
  | zero => intro n h; rw [Lib.decDigits_one (by simpa using h)]; simp
  | succ k ih =>
    intro n h
    rw [Lib.decDigits]
    split
    · simp
    · rw [List.length_append]
      have := ih (n := n / 10) (by rw [Nat.pow_succ] at h; omega)
      simp; omega
theorem dval_lt (L : List UInt8) (h : L.all isD = true) : dval L < 10 ^ L.length := by
  revert h
  refine rev_ind (P := fun L => L.all isD = true → dval L < 10 ^ L.length) (by intro _; simp [dval]) ?_ L
  · intro L b ih h
    rw [List.all_append, Bool.and_eq_true] at h
    have i := ih h.1
    have hb : isD b = true := by simpa using h.2
    have := isD_iff hb
    rw [dval_snoc, List.length_append, List.length_singleton, Nat.pow_succ]; omega
theorem dval_pos {L : List UInt8} (h : L.all isD = true) (h1 : L ≠ []) (h2 : L.headD 0 ≠ 48) : 0 < dval L := by
  revert h h1 h2
  refine rev_ind (P := fun L => L.all isD = true → L ≠ [] → L.headD 0 ≠ 48 → 0 < dval L) (by intro _ h1; exact absurd rfl h1) ?_ L
  · intro L b ih h h1 h2
    rw [List.all_append, Bool.and_eq_true] at h
    have hb : isD b = true := by simpa using h.2
    have hbb := isD_iff hb
    rw [dval_snoc]
    cases L with
    | nil =>
      have : b.toNat ≠ 48 := by
        intro h3; apply h2; apply UInt8.toNat_inj.mp; simpa using h3
      simp [dval]; omega
    | cons a l =>
      have := ih h.1 (by simp) (by simpa using h2)
      omega
theorem dec_dval {L : List UInt8} (h : L.all isD = true) (h1 : L ≠ []) (h2 : L = [48] ∨ L.headD 0 ≠ 48) : Lib.decDigits (dval L) = L := by
  revert h h1 h2
  refine rev_ind (P := fun L => L.all isD = true → L ≠ [] → (L = [48] ∨ L.headD 0 ≠ 48) → Lib.decDigits (dval L) = L) (by intro _ h1; exact absurd rfl h1) ?_ L
  · intro L b ih h h1 h2
    rw [List.all_append, Bool.and_eq_true] at h
    have hb : isD b = true := by simpa using h.2
    have hbb := isD_iff hb
    have eb : UInt8.ofNat (48 + (b.toNat - 48)) = b := by
      apply UInt8.toNat_inj.mp; rw [dgt (by omega)]; omega
    rw [dval_snoc]
    cases L with
    | nil =>
      have e0 : dval [] = 0 := rfl
      rw [e0, Nat.zero_mul, Nat.zero_add, Lib.decDigits_one (by omega), eb]; rfl
    | cons a l =>
      have hh : (a :: l).headD 0 ≠ 48 := by
        rcases h2 with h3 | h3
        · simp at h3
        · simpa using h3
      have hp := dval_pos h.1 (by simp) hh
      rw [Lib.decDigits, dif_neg (by omega)]
      have e1 : (dval (a :: l) * 10 + (b.toNat - 48)) / 10 = dval (a :: l) := by omega
      have e2 : (dval (a :: l) * 10 + (b.toNat - 48)) % 10 = b.toNat - 48 := by omega
      rw [e1, e2, eb, ih h.1 (by simp) (Or.inr hh)]
theorem dec_dval_ok {L : List UInt8} (h : decOk L = true) : Lib.decDigits (dval L) = L := by
  simp only [decOk, Bool.and_eq_true, Bool.or_eq_true] at h
  obtain ⟨h1, h2⟩ := h
  rcases h2 with h2 | h2
  · have e : L = [48] := of_decide_eq_true h2
    exact dec_dval h1 (by rw [e]; simp) (Or.inl e)
  · refine dec_dval h1 ?_ (Or.inr (by simpa using h2.2))
    intro h3; rw [h3] at h2; simp at h2
theorem pow9 (k : Nat) : (1000000000 : Nat) ^ k = 10 ^ (9 * k) := by rw [Nat.pow_mul]
theorem lt_pow9 {n a k : Nat} (h : n < 10 ^ a) (h2 : a ≤ 9 * k) : n < 1000000000 ^ k := by rw [pow9]; exact Nat.lt_of_lt_of_le h (Nat.pow_le_pow_right (by decide) h2)
/-- What Text returns is parsed as the number. -/
theorem parse_text {xs : List Int} (h : validB xs = true) : parN (textV xs).data.toList = (nval xs).toNat ∧ parE (textV xs).data.toList = 0 ∧ limbs (nval xs).toNat = xs := by
  have ht : (textV xs).data.toList = Lib.decDigits (nval xs).toNat := by rw [textV, h]; rfl
  have hl := nrm_limbs (valid_nrm h)
  have hlt : (nval xs).toNat < 1000000000 ^ 48 := limbs_len_le.mp (by rw [← hl]; exact valid_len h)
  rw [pow9, show 9 * 48 = 431 + 1 from rfl] at hlt
  have hlen : (Lib.decDigits (nval xs).toNat).length ≤ 432 := dec_len (k := 431) hlt
  rw [ht, parN, parE, dec_ok, if_pos rfl, if_pos rfl, if_pos hlen, if_pos hlen, dval_dec]
  exact ⟨rfl, rfl, hl.symm⟩
/-- What is parsed is valid, and has this text. -/
theorem text_parse {L : List UInt8} (h : parE L = 0) : validB (limbs (parN L)) = true ∧ (textV (limbs (parN L))).data.toList = L := by
  unfold parE at h
  have h1 : decOk L = true := by
    cases hd : decOk L with
    | true => rfl
    | false => rw [hd] at h; simp at h
  rw [h1, if_pos rfl] at h
  have h2 : L.length ≤ 432 := by
    rcases Nat.lt_or_ge 432 L.length with h3 | h3
    · rw [if_neg (by omega)] at h; simp at h
    · exact h3
  have hN : parN L = dval L := by rw [parN, h1, if_pos rfl, if_pos h2]
  have hall : L.all isD = true := by simp only [decOk, Bool.and_eq_true] at h1; exact h1.1
  have hlt := dval_lt L hall
  have hv : validB (limbs (dval L)) = true := validB_iff.mpr ⟨limbs_len_le.mpr (lt_pow9 hlt (by omega)), nrm_of_limbs _⟩
  rw [hN]
  refine ⟨hv, ?_⟩
  rw [textV, hv]
  show (decS (nval (limbs (dval L))).toNat).data.toList = L
  rw [nval_limbs, Int.toNat_natCast]
  show (Lib.decDigits (dval L)).toArray.toList = L
  rw [List.toList_toArray, dec_dval_ok h1]
theorem parN_err {L : List UInt8} (h : parE L ≠ 0) : parN L = 0 := by
  unfold parE at h
  unfold parN
  split at h
  · split at h
    · exact absurd rfl h
    · rename_i h1 h2; rw [if_pos h1, if_neg h2]
  · rename_i h1; rw [if_neg h1]

theorem call_back (xs : List Int) (w : World) (hv : validB xs = true) (hm : (textV xs).size ≤ 9223372036854775807) :
    Calls Tryd.prog 20 #[.string (textV xs)] w fun e w' => ∃ v, e = .returned (.tuple #[v, .int .i64 0]) ∧ In w' v xs ∧ Below w.heap.size w w' := by
  refine (nat_Parse (textV xs) w hm).mono ?_
  rintro e w' ⟨v, rfl, hs, hb⟩
  have h := parse_text hv
  rw [h.1, h.2.2] at hs
  exact ⟨v, by rw [h.2.1], hs.toIn, hb⟩
theorem call_fwd (s : ByteArray) (w : World) (hv : parE s.data.toList = 0) (hm : s.size ≤ 9223372036854775807) :
    Calls Tryd.prog 20 #[.string s] w fun e w' => ∃ v zs, e = .returned (.tuple #[v, .int .i64 0]) ∧ In w' v zs ∧ validB zs = true ∧ textV zs = s ∧ Below w.heap.size w w' := by
  refine (nat_Parse s w hm).mono ?_
  rintro e w' ⟨v, rfl, hs, hb⟩
  have h := text_parse hv
  exact ⟨v, _, by rw [hv], hs.toIn, h.1, bytes_inj h.2, hb⟩
theorem call_not (s : ByteArray) (w : World) (hv : parE s.data.toList ≠ 0) (hm : s.size ≤ 9223372036854775807) :
    Calls Tryd.prog 20 #[.string s] w fun e w' => ∃ A c, e = .returned (.tuple #[.slice A 0 c, .int .i64 (parE s.data.toList)]) ∧ Below w.heap.size w w' := by
  refine (nat_Parse s w hm).mono ?_
  rintro e w' ⟨v, rfl, hs, hb⟩
  rw [parN_err hv, limbs_zero] at hs
  obtain ⟨A, c, rfl, _⟩ := hs
  exact ⟨A, c, rfl, hb⟩
theorem call_text (xs : List Int) (va : Value) (w : World) (ha : In w va xs) (hv : validB xs = true) (ht : Tab w) :
    Calls Tryd.prog 18 #[va] w fun e w' => e = .returned (.tuple #[.string (textV xs), .int .i64 0]) ∧ Below w.heap.size w w' := by
  refine (nat_Text xs va w ha ht).mono ?_
  rintro e w' ⟨rfl, hb⟩
  exact ⟨by rw [oneE, hv]; rfl, hb⟩
theorem text_size {xs : List Int} (hv : validB xs = true) : (textV xs).size ≤ 9223372036854775807 := by
  have h := parse_text hv
  have ht : (textV xs).data.toList = Lib.decDigits (nval xs).toNat := by rw [textV, hv]; rfl
  have hl := nrm_limbs (valid_nrm hv)
  have hlt : (nval xs).toNat < 1000000000 ^ 48 := limbs_len_le.mp (by rw [← hl]; exact valid_len hv)
  rw [pow9, show 9 * 48 = 431 + 1 from rfl] at hlt
  have hlen := dec_len (k := 431) hlt
  rw [← ht, str_len] at hlen
  omega
theorem valid_in (xs : List Int) (va : Value) (w : World) (ha : In w va xs) : Calls Tryd.prog 22 #[va] w fun e w' => e = .returned (.bool (validB xs)) ∧ w = w' := by
  obtain ⟨A, c, rfl, hc, hm, hA⟩ := ha
  exact nat_Valid xs A c _ _ w hA (Nat.le_trans hc hm)

set_option maxRecDepth 100000 in
set_option maxHeartbeats 3200000 in
theorem walk_NatTexts (w : World) (A : Option Addr) (n c : Nat) (xs : List Int) (ha : In w (.slice A n c) xs) (s : ByteArray) (hs : s.size ≤ 9223372036854775807) (ht : Tab w) :
    Calls Tryd.prog 10 #[.slice A n c, .string s] w fun e w' => e = .returned (.bool true) ∧ Below w.heap.size w w' := by
  have HA := Lib.hid ha
  have HT := Lib.hid ht
  clear ha ht
  cases hf : (decide (n ≤ 100) && decide (0 ≤ 100)) with
  | false =>
    go_enter Tryd.func10, Tryd.ntmps10
    go_wp2_with fail
    refine (few_c A none n c 0 0 w).mono ?_
    rintro e w' ⟨rfl, rfl⟩
    rw [hf]
    go_wp2_with fail
    refine (awake_true w (HT.out)).mono ?_
    rintro e wz ⟨rfl, hbz⟩
    have HBZ := Lib.hid (hbz)
    clear hbz
    go_wp2_with fail
    go_ret
    exact ⟨rfl, HBZ.out⟩
  | true =>
    by_cases hbig : 600 < s.size
    · have hb' : (600 : Int) < (s.size : Int) := by omega
      go_enter Tryd.func10, Tryd.ntmps10
      go_wp2_with fail
      refine (few_c A none n c 0 0 w).mono ?_
      rintro e w' ⟨rfl, rfl⟩
      rw [hf]
      go_wp2_with fail
      refine (awake_true w (HT.out)).mono ?_
      rintro e wz ⟨rfl, hbz⟩
      have HBZ := Lib.hid (hbz)
      clear hbz
      go_wp2_with fail
      go_ret
      exact ⟨rfl, HBZ.out⟩
    · have hb' : decide ((600 : Int) < (s.size : Int)) = false := decide_eq_false (by omega)
      clear hbig
      cases hv : validB xs with
      | false =>
        by_cases hp : parE s.data.toList = 0
        · skip
          go_enter Tryd.func10, Tryd.ntmps10
          go_wp2_with fail
          refine (few_c A none n c 0 0 w).mono ?_
          rintro e w' ⟨rfl, rfl⟩
          rw [hf]
          go_wp2_with fail
          refine (valid_in xs _ w HA.out).mono ?_
          rintro e w1 ⟨rfl, rfl⟩
          rw [hv]
          have HB1 := Lib.hid (Below.refl w.heap.size w)
          go_wp2_with fail
          refine (call_fwd s w hp hs).mono ?_
          rintro e w4 ⟨vx, zs, rfl, hx, hzv, hzt, hb4⟩
          have HX := Lib.hid hx
          have HZT := Lib.hid hzt
          have HB4 := Lib.hid (bstep HB1.out hb4)
          clear hx hzt hb4
          go_wp2_with fail
          refine (call_text zs _ w4 HX.out hzv (HT.out.on HB4.out)).mono ?_
          rintro e w5 ⟨rfl, hb5⟩
          rw [HZT.out]
          have HB5 := Lib.hid (bstep HB4.out hb5)
          have HX5 := Lib.hid (HX.out.on hb5)
          clear hb5
          go_wp2_with fail
          refine (valid_in zs _ w5 HX5.out).mono ?_
          rintro e w6 ⟨rfl, rfl⟩
          rw [hzv]
          go_wp2_with fail
          refine (awake_true w5 (HT.out.on HB5.out)).mono ?_
          rintro e wz ⟨rfl, hbz⟩
          have HBZ := Lib.hid (bstep HB5.out hbz)
          clear hbz
          go_wp2_with fail
          go_ret
          exact ⟨rfl, HBZ.out⟩
        · skip
          go_enter Tryd.func10, Tryd.ntmps10
          go_wp2_with fail
          refine (few_c A none n c 0 0 w).mono ?_
          rintro e w' ⟨rfl, rfl⟩
          rw [hf]
          go_wp2_with fail
          refine (valid_in xs _ w HA.out).mono ?_
          rintro e w1 ⟨rfl, rfl⟩
          rw [hv]
          have HB1 := Lib.hid (Below.refl w.heap.size w)
          have hpn : (parE s.data.toList != 0) = true := by simpa using hp
          have HPN := Lib.hid hp
          clear hp
          go_wp2_with fail
          refine (call_not s w HPN.out hs).mono ?_
          rintro e w4 ⟨Ax, cx, rfl, hb4⟩
          have HB4 := Lib.hid (bstep HB1.out hb4)
          clear hb4
          go_wp2_with fail
          refine (awake_true w4 (HT.out.on HB4.out)).mono ?_
          rintro e wz ⟨rfl, hbz⟩
          have HBZ := Lib.hid (bstep HB4.out hbz)
          clear hbz
          go_wp2_with fail
          go_ret
          exact ⟨rfl, HBZ.out⟩
      | true =>
        by_cases hp : parE s.data.toList = 0
        · skip
          go_enter Tryd.func10, Tryd.ntmps10
          go_wp2_with fail
          refine (few_c A none n c 0 0 w).mono ?_
          rintro e w' ⟨rfl, rfl⟩
          rw [hf]
          go_wp2_with fail
          refine (valid_in xs _ w HA.out).mono ?_
          rintro e w0 ⟨rfl, rfl⟩
          rw [hv]
          go_wp2_with fail
          refine (call_text xs _ w HA.out hv HT.out).mono ?_
          rintro e w2 ⟨rfl, hb2⟩
          have HB2 := Lib.hid hb2
          clear hb2
          go_wp2_with fail
          refine (call_back xs w2 hv (text_size hv)).mono ?_
          rintro e w3 ⟨vb, rfl, hvb, hb3⟩
          have HB3 := Lib.hid (bstep HB2.out hb3)
          have HVB := Lib.hid hvb
          clear hb3 hvb
          go_wp2_with fail
          refine (same_in xs xs _ _ w3 (HA.out.on HB3.out) HVB.out).mono ?_
          rintro e w1 ⟨rfl, hb1⟩
          have HB1 := Lib.hid (bstep HB3.out hb1)
          clear hb1
          rw [decide_eq_true rfl]
          go_wp2_with fail
          refine (call_fwd s w1 hp hs).mono ?_
          rintro e w4 ⟨vx, zs, rfl, hx, hzv, hzt, hb4⟩
          have HX := Lib.hid hx
          have HZT := Lib.hid hzt
          have HB4 := Lib.hid (bstep HB1.out hb4)
          clear hx hzt hb4
          go_wp2_with fail
          refine (call_text zs _ w4 HX.out hzv (HT.out.on HB4.out)).mono ?_
          rintro e w5 ⟨rfl, hb5⟩
          rw [HZT.out]
          have HB5 := Lib.hid (bstep HB4.out hb5)
          have HX5 := Lib.hid (HX.out.on hb5)
          clear hb5
          go_wp2_with fail
          refine (valid_in zs _ w5 HX5.out).mono ?_
          rintro e w6 ⟨rfl, rfl⟩
          rw [hzv]
          go_wp2_with fail
          refine (awake_true w5 (HT.out.on HB5.out)).mono ?_
          rintro e wz ⟨rfl, hbz⟩
          have HBZ := Lib.hid (bstep HB5.out hbz)
          clear hbz
          go_wp2_with fail
          go_ret
          exact ⟨rfl, HBZ.out⟩
        · skip
          go_enter Tryd.func10, Tryd.ntmps10
          go_wp2_with fail
          refine (few_c A none n c 0 0 w).mono ?_
          rintro e w' ⟨rfl, rfl⟩
          rw [hf]
          go_wp2_with fail
          refine (valid_in xs _ w HA.out).mono ?_
          rintro e w0 ⟨rfl, rfl⟩
          rw [hv]
          go_wp2_with fail
          refine (call_text xs _ w HA.out hv HT.out).mono ?_
          rintro e w2 ⟨rfl, hb2⟩
          have HB2 := Lib.hid hb2
          clear hb2
          go_wp2_with fail
          refine (call_back xs w2 hv (text_size hv)).mono ?_
          rintro e w3 ⟨vb, rfl, hvb, hb3⟩
          have HB3 := Lib.hid (bstep HB2.out hb3)
          have HVB := Lib.hid hvb
          clear hb3 hvb
          go_wp2_with fail
          refine (same_in xs xs _ _ w3 (HA.out.on HB3.out) HVB.out).mono ?_
          rintro e w1 ⟨rfl, hb1⟩
          have HB1 := Lib.hid (bstep HB3.out hb1)
          clear hb1
          rw [decide_eq_true rfl]
          have hpn : (parE s.data.toList != 0) = true := by simpa using hp
          have HPN := Lib.hid hp
          clear hp
          go_wp2_with fail
          refine (call_not s w1 HPN.out hs).mono ?_
          rintro e w4 ⟨Ax, cx, rfl, hb4⟩
          have HB4 := Lib.hid (bstep HB1.out hb4)
          clear hb4
          go_wp2_with fail
          refine (awake_true w4 (HT.out.on HB4.out)).mono ?_
          rintro e wz ⟨rfl, hbz⟩
          have HBZ := Lib.hid (bstep HB4.out hbz)
          clear hbz
          go_wp2_with fail
          go_ret
          exact ⟨rfl, HBZ.out⟩
#print axioms walk_NatTexts
end Go.Proofs.YtmbpcjnlniidkaaDoor
