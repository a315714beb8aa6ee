/- Several texts in one: NatW1, NatW2, NatQ, NatR, NatS, NatT. -/
import Derived.Test.YtohfaoclemcfaaaPk3
import Derived.Laws.AppendOwnNone
/- The walk of NatCompares; contracts of the reference's compare and Cmp. -/
namespace Go.Proofs.Ytohfaoclemcfaaa
open Go.ChangeShapes Go.WideShapes Go.RowKit
set_option linter.unusedVariables false
set_option maxRecDepth 100000

set_option maxHeartbeats 1600000 in
theorem ref_compare (xs ys : List Int) (A B : Option Addr) (c d : Nat) (lo hi lo' hi' : Nat) (w : World) (hS : Holds w lo hi A xs) (hT : Holds w lo' hi' B ys) (hh : hi ≤ w.heap.size) (hh' : hi' ≤ w.heap.size)
    (hx : nrm xs = true) (hy : nrm ys = true) (hm : xs.length ≤ 1000000) (hm2 : ys.length ≤ 1000000) :
    Calls Try.prog 79 #[.slice A xs.length c, .slice B ys.length d] w fun e w' => e = .returned (.int .i64 (cmpI (nval xs) (nval ys))) ∧ Below w.heap.size w w' := by
  have HS := Lib.hid hS
  have HT := Lib.hid hT
  have HX := Lib.hid hx
  have HY := Lib.hid hy
  clear hS hT hx hy
  by_cases hl : xs.length = ys.length
  · go_enter Try.func79, Try.ntmps79
    rw [← hl]
    have HL := Lib.hid hl
    clear hl hm2
    go_wp2_with fail
    go_loopw [5] (fun i wr => ∃ k : Nat, k ≤ xs.length ∧ i = .int .i64 ((xs.length : Int) - 1 - k) ∧ xs.drop (xs.length - k) = ys.drop (xs.length - k) ∧ Below w.heap.size w wr) (fun i _ => (intOf i + 1).toNat)
    case atStart => exact ⟨0, Nat.zero_le _, by simp, by rw [Nat.sub_zero, List.drop_length, HL.out, List.drop_length], Below.refl _ _⟩
    case round =>
      obtain ⟨k, hk, rfl, hz, hbel⟩ := hrel
      have HK := Lib.hid hz
      have HB := Lib.hid hbel
      clear hz hbel
      rcases Nat.lt_or_ge k xs.length with hlt | hge
      · obtain ⟨j, hj⟩ : ∃ j, j = xs.length - 1 - k := ⟨_, rfl⟩
        obtain ⟨z, hz⟩ : ∃ z, xs[j]? = some z := ⟨_, List.getElem?_eq_getElem (by omega)⟩
        obtain ⟨y, hy⟩ : ∃ y, ys[j]? = some y := ⟨_, List.getElem?_eq_getElem (by have := HL.out; omega)⟩
        obtain ⟨b, off, rfl, _, _, hcell⟩ := (HS.out.below HB.out hh) j z hz
        obtain ⟨b2, off2, rfl, _, _, hcell2⟩ := (HT.out.below HB.out hh') j y hy
        have e1 : (xs.length : Int) - 1 - k = (j : Int) := by omega
        have hjl : j < xs.length := by omega
        have hd : xs.drop (j + 1) = ys.drop (j + 1) := by have := HK.out; have e : xs.length - k = j + 1 := by omega
                                                          rwa [e] at this
        have HZ := Lib.hid hz
        have HYY := Lib.hid hy
        have HJ := Lib.hid hj
        have HD := Lib.hid hd
        clear hz hy hj hd
        rw [e1]
        have E1 := Lib.hid e1
        clear e1
        rcases Int.lt_or_le z y with h1 | h1
        · have hv : cmpI (nval xs) (nval ys) = -1 := cmpI_lt (nval_lt_at (nrm_lok HX.out) (nrm_lok HY.out) HZ.out HYY.out HD.out h1)
          have HV := Lib.hid hv
          clear hv
          go_wp2_with fail
          go_quiet (fail)
          go_wp2_with fail
          go_ret
          exact ⟨ret_int HV.out.symm, below_drewN HB.out _⟩
        · have h1' : decide (z < y) = false := decide_eq_false (by omega)
          rcases Int.lt_or_le y z with h2 | h2
          · have hv : cmpI (nval xs) (nval ys) = 1 := cmpI_gt (nval_lt_at (nrm_lok HY.out) (nrm_lok HX.out) HYY.out HZ.out HD.out.symm h2)
            have HV := Lib.hid hv
            clear hv
            go_wp2_with fail
            go_quiet (fail)
            go_wp2_with fail
            go_quiet (fail)
            go_wp2_with fail
            go_ret
            exact ⟨ret_int HV.out.symm, below_drewN (below_drewN HB.out _) _⟩
          · have h2' : decide (y < z) = false := decide_eq_false (by omega)
            obtain rfl : z = y := by omega
            go_wp2_with fail
            go_quiet (fail)
            go_wp2_with fail
            go_quiet (fail)
            go_wp2_with fail
            go_roundw
            case rel =>
              refine ⟨k + 1, by omega, ?_, ?_, below_drewN HB.out _⟩
              · have := E1.out; go_num
              · have e2 : xs.length - (k + 1) = j := by have := HJ.out; omega
                rw [e2, drop_step HZ.out, drop_step HYY.out, HD.out]
            case measure => simp [intOf] <;> omega
      · obtain rfl : k = xs.length := by omega
        have he : xs = ys := by have := HK.out; simpa using this
        have HE := Lib.hid he
        have e0 : (xs.length : Int) - 1 - xs.length = -1 := by omega
        clear he
        rw [e0]
        go_wp2_with fail
        go_ret
        refine ⟨ret_int ?_, HB.out⟩
        rw [← HE.out, cmpI_eq]
  · have hne : ((xs.length : Int) != (ys.length : Int)) = true := by simp; omega
    go_enter Try.func79, Try.ntmps79
    rcases Nat.lt_or_ge xs.length ys.length with h1 | h1
    · have hv := cmpI_lt (nrm_len HX.out HY.out h1)
      have h1' : (xs.length : Int) < (ys.length : Int) := by omega
      have HV := Lib.hid hv
      clear hv hl
      go_wp2_with fail
      go_ret
      exact ⟨ret_int HV.out.symm, Below.refl _ _⟩
    · have hv := cmpI_gt (nrm_len HY.out HX.out (by omega))
      have h1' : decide ((xs.length : Int) < (ys.length : Int)) = false := decide_eq_false (by omega)
      have HV := Lib.hid hv
      clear hv hl
      go_wp2_with fail
      go_ret
      exact ⟨ret_int HV.out.symm, Below.refl _ _⟩

set_option maxHeartbeats 800000 in
theorem ref_Cmp (xs ys : List Int) (va vb : Value) (w : World) (ha : In w va xs) (hb : In w vb ys) :
    Calls Try.prog 66 #[va, vb] w fun e w' => e = .returned (.tuple #[.int .i64 (cmpV xs ys), .int .i64 (formE xs ys)]) ∧ Below w.heap.size w w' := by
  obtain ⟨A, c, rfl, hc, hm, hA⟩ := ha
  obtain ⟨B, d, rfl, hd, hn, hB⟩ := hb
  have HA := Lib.hid hA
  have HB := Lib.hid hB
  have hm1 : xs.length ≤ 9223372036854775807 := Nat.le_trans hc hm
  have hm2 : ys.length ≤ 9223372036854775807 := Nat.le_trans hd hn
  clear hA hB hm hn
  rcases both_cases xs ys with ⟨hx, hbo⟩ | ⟨hx, hy, hbo⟩ | ⟨hx, hy, hbo⟩
  · have HBO := Lib.hid hbo
    clear hbo
    go_enter Try.func66, Try.ntmps66
    go_wp2_with fail
    refine (ref_Valid xs A c _ _ w HA.out hm1).mono ?_
    rintro e w' ⟨rfl, rfl⟩
    go_wp2_with fail
    go_ret2
    exact ⟨ret_two (by rw [cmpV, HBO.out]; rfl) (by rw [formE, HBO.out]; rfl), Below.refl _ _⟩
  · have HBO := Lib.hid hbo
    clear hbo
    go_enter Try.func66, Try.ntmps66
    go_wp2_with fail
    refine (ref_Valid xs A c _ _ w HA.out hm1).mono ?_
    rintro e w' ⟨rfl, rfl⟩
    go_wp2_with fail
    refine (ref_Valid ys B d _ _ _ HB.out hm2).mono ?_
    rintro e w' ⟨rfl, rfl⟩
    go_wp2_with fail
    go_ret2
    exact ⟨ret_two (by rw [cmpV, HBO.out]; rfl) (by rw [formE, HBO.out]; rfl), Below.refl _ _⟩
  · have HBO := Lib.hid hbo
    have l1 := valid_len hx
    have l2 := valid_len hy
    clear hbo
    go_enter Try.func66, Try.ntmps66
    go_wp2_with fail
    refine (ref_Valid xs A c _ _ w HA.out hm1).mono ?_
    rintro e w' ⟨rfl, rfl⟩
    go_wp2_with fail
    refine (ref_Valid ys B d _ _ _ HB.out hm2).mono ?_
    rintro e w' ⟨rfl, rfl⟩
    go_wp2_with fail
    refine (ref_compare xs ys A B c d _ _ _ _ _ HA.out HB.out (Nat.le_refl _) (Nat.le_refl _) (valid_nrm hx) (valid_nrm hy) (by omega) (by omega)).mono ?_
    rintro e w' ⟨rfl, hbel⟩
    go_wp2_with fail
    go_ret2
    exact ⟨ret_two (by rw [cmpV, HBO.out]; rfl) (by rw [formE, HBO.out]; rfl), hbel⟩

end Go.Proofs.Ytohfaoclemcfaaa
/- The walk of NatTexts. -/
namespace Go.Proofs.Ytohfaoclemcfaaa
open Go.ChangeShapes Go.WideShapes Go.RowKit
set_option linter.unusedVariables false
set_option maxRecDepth 100000

theorem dgt {d : Nat} (h : d < 10) : (UInt8.ofNat (48 + d)).toNat = 48 + d := by
  show (48 + d) % 256 = 48 + d
  omega
theorem rev_ind {P : List UInt8 → Prop} (h0 : P []) (h1 : ∀ l a, P l → P (l ++ [a])) (L : List UInt8) : P L := by
  have h : ∀ l : List UInt8, P l.reverse := by
    intro l
    induction l with
    | nil => exact h0
    | cons a l ih => rw [List.reverse_cons]; exact h1 _ _ ih
  have := h L.reverse
  rwa [List.reverse_reverse] at this
theorem dval_dec (n : Nat) : dval (Lib.decDigits n) = n := by
  induction n using Nat.strongRecOn with
  | ind n ih =>
    rw [Lib.decDigits]
    split
    · rename_i h
      have := dgt h
      show 0 * 10 + ((UInt8.ofNat (48 + n)).toNat - 48) = n
      omega
    · rename_i h
      have := dgt (d := n % 10) (by omega)
      rw [dval_snoc, ih _ (by omega), this]; omega
theorem dec_all (n : Nat) : (Lib.decDigits n).all isD = true := by
  induction n using Nat.strongRecOn with
  | ind n ih =>
    rw [Lib.decDigits]
    split
    · rename_i h
      have := dgt h
      rw [List.all_cons, isD_yes (by omega) (by omega)]; rfl
    · rename_i h
      have := dgt (d := n % 10) (by omega)
      rw [List.all_append, ih _ (by omega), List.all_cons, isD_yes (by omega) (by omega)]; rfl
theorem dec_ne (n : Nat) : Lib.decDigits n ≠ [] := by
  rw [Lib.decDigits]; split <;> simp
theorem dec_head {n : Nat} (h : 0 < n) : (Lib.decDigits n).headD 0 ≠ 48 := by
  induction n using Nat.strongRecOn with
  | ind n ih =>
    rw [Lib.decDigits]
    split
    · rename_i h10
      intro h2
      have h3 : (UInt8.ofNat (48 + n)).toNat = 48 := congrArg UInt8.toNat h2
      rw [dgt h10] at h3; omega
    · rename_i h10
      have h1 := ih (n / 10) (by omega) (by omega)
      cases hd : Lib.decDigits (n / 10) with
      | nil => exact absurd hd (dec_ne _)
      | cons a l => rw [hd] at h1; simpa using h1
theorem dec_ok (n : Nat) : decOk (Lib.decDigits n) = true := by
  unfold decOk
  rw [dec_all]
  rcases Nat.eq_zero_or_pos n with rfl | h
  · have : Lib.decDigits 0 = [48] := by rw [Lib.decDigits_one (by decide)]; rfl
    rw [this]; rfl
  · have h1 := dec_head h
    have h2 := dec_ne n
    have h3 : (Lib.decDigits n).isEmpty = false := by cases hd : Lib.decDigits n with
      | nil => exact absurd hd h2
      | cons a l => rfl
    rw [h3]
    have h4 : ((Lib.decDigits n).headD 0 != 48) = true := by simpa using h1
    rw [h4]; simp
theorem dec_len {k : Nat} : ∀ {n : Nat}, n < 10 ^ (k + 1) → (Lib.decDigits n).length ≤ k + 1 := by
  induction k with
  | zero => intro n h; rw [Lib.decDigits_one (by simpa using h)]; simp
  | succ k ih =>
    intro n h
    rw [Lib.decDigits]
    split
    · simp
    · rw [List.length_append]
      have := ih (n := n / 10) (by rw [Nat.pow_succ] at h; omega)
      simp; omega
theorem dval_lt (L : List UInt8) (h : L.all isD = true) : dval L < 10 ^ L.length := by
  revert h
  refine rev_ind (P := fun L => L.all isD = true → dval L < 10 ^ L.length) (by intro _; simp [dval]) ?_ L
  · intro L b ih h
    rw [List.all_append, Bool.and_eq_true] at h
    have i := ih h.1
    have hb : isD b = true := by simpa using h.2
    have := isD_iff hb
    rw [dval_snoc, List.length_append, List.length_singleton, Nat.pow_succ]; omega
theorem dval_pos {L : List UInt8} (h : L.all isD = true) (h1 : L ≠ []) (h2 : L.headD 0 ≠ 48) : 0 < dval L := by
  revert h h1 h2
  refine rev_ind (P := fun L => L.all isD = true → L ≠ [] → L.headD 0 ≠ 48 → 0 < dval L) (by intro _ h1; exact absurd rfl h1) ?_ L
  · intro L b ih h h1 h2
    rw [List.all_append, Bool.and_eq_true] at h
    have hb : isD b = true := by simpa using h.2
    have hbb := isD_iff hb
    rw [dval_snoc]
    cases L with
    | nil =>
      have : b.toNat ≠ 48 := by
        intro h3; apply h2; apply UInt8.toNat_inj.mp; simpa using h3
      simp [dval]; omega
    | cons a l =>
      have := ih h.1 (by simp) (by simpa using h2)
      omega
theorem dec_dval {L : List UInt8} (h : L.all isD = true) (h1 : L ≠ []) (h2 : L = [48] ∨ L.headD 0 ≠ 48) : Lib.decDigits (dval L) = L := by
  revert h h1 h2
  refine rev_ind (P := fun L => L.all isD = true → L ≠ [] → (L = [48] ∨ L.headD 0 ≠ 48) → Lib.decDigits (dval L) = L) (by intro _ h1; exact absurd rfl h1) ?_ L
  · intro L b ih h h1 h2
    rw [List.all_append, Bool.and_eq_true] at h
    have hb : isD b = true := by simpa using h.2
    have hbb := isD_iff hb
    have eb : UInt8.ofNat (48 + (b.toNat - 48)) = b := by
      apply UInt8.toNat_inj.mp; rw [dgt (by omega)]; omega
    rw [dval_snoc]
    cases L with
    | nil =>
      have e0 : dval [] = 0 := rfl
      rw [e0, Nat.zero_mul, Nat.zero_add, Lib.decDigits_one (by omega), eb]; rfl
    | cons a l =>
      have hh : (a :: l).headD 0 ≠ 48 := by
        rcases h2 with h3 | h3
        · simp at h3
        · simpa using h3
      have hp := dval_pos h.1 (by simp) hh
      rw [Lib.decDigits, dif_neg (by omega)]
      have e1 : (dval (a :: l) * 10 + (b.toNat - 48)) / 10 = dval (a :: l) := by omega
      have e2 : (dval (a :: l) * 10 + (b.toNat - 48)) % 10 = b.toNat - 48 := by omega
      rw [e1, e2, eb, ih h.1 (by simp) (Or.inr hh)]
theorem dec_dval_ok {L : List UInt8} (h : decOk L = true) : Lib.decDigits (dval L) = L := by
  simp only [decOk, Bool.and_eq_true, Bool.or_eq_true] at h
  obtain ⟨h1, h2⟩ := h
  rcases h2 with h2 | h2
  · have e : L = [48] := of_decide_eq_true h2
    exact dec_dval h1 (by rw [e]; simp) (Or.inl e)
  · refine dec_dval h1 ?_ (Or.inr (by simpa using h2.2))
    intro h3; rw [h3] at h2; simp at h2
theorem pow9 (k : Nat) : (1000000000 : Nat) ^ k = 10 ^ (9 * k) := by rw [Nat.pow_mul]
theorem lt_pow9 {n a k : Nat} (h : n < 10 ^ a) (h2 : a ≤ 9 * k) : n < 1000000000 ^ k := by rw [pow9]; exact Nat.lt_of_lt_of_le h (Nat.pow_le_pow_right (by decide) h2)
/-- What Text returns is parsed as the number. -/
theorem parse_text {xs : List Int} (h : validB xs = true) : parN (textV xs).data.toList = (nval xs).toNat ∧ parE (textV xs).data.toList = 0 ∧ limbs (nval xs).toNat = xs := by
  have ht : (textV xs).data.toList = Lib.decDigits (nval xs).toNat := by rw [textV, h]; rfl
  have hl := nrm_limbs (valid_nrm h)
  have hlt : (nval xs).toNat < 1000000000 ^ 48 := limbs_len_le.mp (by rw [← hl]; exact valid_len h)
  rw [pow9, show 9 * 48 = 431 + 1 from rfl] at hlt
  have hlen : (Lib.decDigits (nval xs).toNat).length ≤ 432 := dec_len (k := 431) hlt
  rw [ht, parN, parE, dec_ok, if_pos rfl, if_pos rfl, if_pos hlen, if_pos hlen, dval_dec]
  exact ⟨rfl, rfl, hl.symm⟩
/-- What is parsed is valid, and has this text. -/
theorem text_parse {L : List UInt8} (h : parE L = 0) : validB (limbs (parN L)) = true ∧ (textV (limbs (parN L))).data.toList = L := by
  unfold parE at h
  have h1 : decOk L = true := by
    cases hd : decOk L with
    | true => rfl
    | false => rw [hd] at h; simp at h
  rw [h1, if_pos rfl] at h
  have h2 : L.length ≤ 432 := by
    rcases Nat.lt_or_ge 432 L.length with h3 | h3
    · rw [if_neg (by omega)] at h; simp at h
    · exact h3
  have hN : parN L = dval L := by rw [parN, h1, if_pos rfl, if_pos h2]
  have hall : L.all isD = true := by simp only [decOk, Bool.and_eq_true] at h1; exact h1.1
  have hlt := dval_lt L hall
  have hv : validB (limbs (dval L)) = true := validB_iff.mpr ⟨limbs_len_le.mpr (lt_pow9 hlt (by omega)), nrm_of_limbs _⟩
  rw [hN]
  refine ⟨hv, ?_⟩
  rw [textV, hv]
  show (decS (nval (limbs (dval L))).toNat).data.toList = L
  rw [nval_limbs, Int.toNat_natCast]
  show (Lib.decDigits (dval L)).toArray.toList = L
  rw [List.toList_toArray, dec_dval_ok h1]
theorem parN_err {L : List UInt8} (h : parE L ≠ 0) : parN L = 0 := by
  unfold parE at h
  unfold parN
  split at h
  · split at h
    · exact absurd rfl h
    · rename_i h1 h2; rw [if_pos h1, if_neg h2]
  · rename_i h1; rw [if_neg h1]

theorem text_size {xs : List Int} (hv : validB xs = true) : (textV xs).size ≤ 9223372036854775807 := by
  have h := parse_text hv
  have ht : (textV xs).data.toList = Lib.decDigits (nval xs).toNat := by rw [textV, hv]; rfl
  have hl := nrm_limbs (valid_nrm hv)
  have hlt : (nval xs).toNat < 1000000000 ^ 48 := limbs_len_le.mp (by rw [← hl]; exact valid_len hv)
  rw [pow9, show 9 * 48 = 431 + 1 from rfl] at hlt
  have hlen := dec_len (k := 431) hlt
  rw [← ht, str_len] at hlen
  omega
theorem valid_in (xs : List Int) (va : Value) (w : World) (ha : In w va xs) : Calls Try.prog 80 #[va] w fun e w' => e = .returned (.bool (validB xs)) ∧ w = w' := by
  obtain ⟨A, c, rfl, hc, hm, hA⟩ := ha
  exact nat_Valid xs A c _ _ w hA (Nat.le_trans hc hm)

end Go.Proofs.Ytohfaoclemcfaaa
/- Appending a slice that is there; contracts of nat.Int, and of Of, Int, fit of the reference. -/
namespace Go.Proofs.Ytohfaoclemcfaaa
open Go.ChangeShapes Go.WideShapes Go.RowKit
set_option linter.unusedVariables false
set_option maxRecDepth 100000

theorem run_append_empty {P : Program} {w : World} (base : Nat) (t ty e : TypeId) (i : TypeInfo) (size c : Nat) (ht : P.underlying t = some (.slice e)) (hi : P.info? e = some i)
    (v : Value) (n : Nat) (xs : List Value) (hown : w.ownsRow base e size v n xs) :
    (Builtin.append_ #[t, t] ty #[v, .slice none 0 c]).run P w = .ok v w := by
  rcases hown.2 with ⟨rfl, rfl⟩ | ⟨g, cap, cur, rfl, _, _, hnc, _⟩
  · simp [Builtin.append_, run_underlying ht, sizeOf, typeInfo, hi, Builtin.lenOf, Builtin.firstCells]
  · simp [Builtin.append_, run_underlying ht, sizeOf, typeInfo, hi, Builtin.lenOf, Builtin.firstCells, hnc, storeCells]
theorem wpList_append_empty {P : Program} {w : World} {ops : Array Oper} {rest : List Oper} {o : Oper} {a : Act} {Q : Exit → Act → World → Prop} (hgd : o.guard = none) (s x : Operand) (t : TypeId)
    (ho : o.op = .call { callee := .builtin .append, args := #[s, x], argTypes := #[t, t] })
    (base : Nat) (e : TypeId) (i : TypeInfo) (size c : Nat) (ht : P.underlying t = some (.slice e)) (hi : P.info? e = some i)
    (v : Value) (n : Nat) (xs : List Value) (hs : a.eval s = v) (hown : w.ownsRow base e size v n xs) (hx : a.eval x = .slice none 0 c)
    (h : wpList P ops Q rest (a.put o.dst v) w) : wpList P ops Q (o :: rest) a w := by
  refine wpList_plain hgd fun K hK => ?_
  have hrun := run_append_empty (P := P) (w := w) base t o.type e i size c ht hi v n xs hown
  unfold Oper.wp
  simp [execOp, ho, resolve, invoke, builtin, hs, hx, hrun, Result.andThen]
  exact hK _ _ h

/-- 'append(s, x...)', s the call's own, x a slice of integers that is there. -/
theorem append_holds {w : World} {ops : Array Oper} {rest : List Oper} {o : Oper} {a : Act} {Q : Exit → Act → World → Prop} (hgd : o.guard = none) (s x : Operand)
    (ho : o.op = .call { callee := .builtin .append, args := #[s, x], argTypes := #[25, 25] })
    (base : Nat) (v : Value) (ds : List Int) (hs : a.eval s = v) (hown : w.ownsRow base 3 1 v ds.length (ds.map (Value.int .i64)))
    (lo hi : Nat) (A : Option Addr) (c : Nat) (zs : List Int) (m : Nat) (hm : m = zs.length) (hx : a.eval x = .slice A m c) (hz : Holds w lo hi A zs)
    (hlen : ds.length + zs.length ≤ 1000000) (hbase : base ≤ w.heap.size)
    (h : ∀ v' w', w'.ownsRow base 3 1 v' (ds ++ zs).length ((ds ++ zs).map (Value.int .i64)) → w.grownBy w' v.ownBlock → wpList Try.prog ops Q rest (a.put o.dst v') w') : wpList Try.prog ops Q (o :: rest) a w := by
  subst hm
  obtain ⟨i0, hi0, hz0, hz1, hz2⟩ := info_parts info_int
  cases A with
  | none =>
    have hnil : zs = [] := by
      cases zs with
      | nil => rfl
      | cons z zs => obtain ⟨b, off, hA, _⟩ := hz 0 z rfl; cases hA
    subst hnil
    refine wpList_append_empty hgd s x _ ho base 3 i0 1 c Try.underlying25 hi0 v ds.length _ hs hown hx (h v w (by simpa using hown) ⟨rfl, rfl, rfl, Nat.le_refl _, fun _ _ _ => rfl⟩)
  | some ad =>
    refine wpList_append_own w hgd s x _ ho base 3 i0 (.int .i64 0) 1 8 Try.underlying25 hi0 hz0 hz1 hz2 rfl (by decide) v ds.length _ hs hown ad zs.length c (zs.map (Value.int .i64)) hx (by simp) ?_ cells_ints (by unfold maxLen; omega) (by omega) hbase ?_
    · intro j u hj
      rw [List.getElem?_map] at hj
      cases hzj : zs[j]? with
      | none => rw [hzj] at hj; cases hj
      | some z =>
        obtain ⟨ad', he, hc⟩ := holds_cells hz (by rw [List.length_map]; exact Nat.lt_of_le_of_lt (Nat.zero_le j) (by rcases Nat.lt_or_ge j zs.length with h1 | h1; exact h1; rw [List.getElem?_eq_none h1] at hzj; cases hzj))
        cases he
        exact hc j u (by rw [List.getElem?_map]; exact hj)
    · intro v' w' hown' hg _
      exact h v' w' (by rw [List.length_append, List.map_append]; exact hown') hg

theorem own_empty (w : World) : (w.alloc (.cells #[] 3)).ownsRow w.heap.size 3 1 (.slice (some ⟨w.heap.size, 0, none⟩) 0 0) ([] : List Int).length (([] : List Int).map (Value.int .i64)) :=
  World.ownsRow_lit (base := w.heap.size) (e := 3) (size := 1) w #[] 0 (Nat.le_refl _) (by unfold maxLen; omega) rfl

def intV (xs : List Int) : Int := if validB xs then (if nval xs ≤ 1125899906842624 then nval xs else 0) else 0
def intE (xs : List Int) : Int := if validB xs then (if nval xs ≤ 1125899906842624 then 0 else 2) else 3
theorem long_big {xs : List Int} (hn : nrm xs = true) (h : 2 < xs.length) : 1000000000000000000 ≤ nval xs := by
  have hl := nrm_limbs hn
  have h0 := nval_nonneg (nrm_lok hn)
  have h1 : ¬ (limbs (nval xs).toNat).length ≤ 2 := by rw [← hl]; omega
  rw [limbs_len_le] at h1
  omega

end Go.Proofs.Ytohfaoclemcfaaa
/- Contracts of at, fit, Add, minus, Sub of the reference. -/
namespace Go.Proofs.Ytohfaoclemcfaaa
open Go.ChangeShapes Go.WideShapes Go.RowKit
set_option linter.unusedVariables false
set_option maxRecDepth 100000

theorem ref_at (zs : List Int) (A : Option Addr) (c i : Nat) (lo hi : Nat) (w : World) (hS : Holds w lo hi A zs) (hi : i ≤ 9223372036854775807) :
    Calls Try.prog 78 #[.slice A zs.length c, .int .i64 (i : Int)] w fun e w' => e = .returned (.int .i64 (zs.getD i 0)) ∧ w = w' := by
  rcases Nat.lt_or_ge i zs.length with h | h
  · have hz : zs[i]? = some zs[i] := List.getElem?_eq_getElem h
    obtain ⟨z, hz'⟩ : ∃ z, z = zs[i] := ⟨_, rfl⟩
    rw [← hz'] at hz
    obtain ⟨b, off, rfl, _, _, hcell⟩ := hS i z hz
    have hv : zs.getD i 0 = z := by rw [List.getD_eq_getElem?_getD, hz]; rfl
    have HV := Lib.hid hv
    have h' : (i : Int) < (zs.length : Int) := by omega
    clear hz hz' hS hv
    go_enter Try.func78, Try.ntmps78
    go_wp2
    go_ret
    exact ⟨ret_int HV.out.symm, rfl⟩
  · have hv : zs.getD i 0 = 0 := by rw [List.getD_eq_getElem?_getD, List.getElem?_eq_none h]; rfl
    have HV := Lib.hid hv
    have h' : decide ((i : Int) < (zs.length : Int)) = false := decide_eq_false (by omega)
    clear hS hv
    go_enter Try.func78, Try.ntmps78
    go_wp2
    go_ret
    exact ⟨ret_int HV.out.symm, rfl⟩

set_option maxHeartbeats 1600000 in
theorem ref_fit (zs : List Int) (va : Value) (w : World) (ha : In w va zs) (hk : lok zs = true) (hl : zs.length ≤ 100000) :
    Calls Try.prog 63 #[va] w (Res w (fitN (nval zs).toNat) (fitE (nval zs).toNat)) := by
  obtain ⟨A, c, rfl, hc, hm, hA⟩ := ha
  have HS := Lib.hid hA
  have hm' : c ≤ 9223372036854775807 := hm
  have hlm : trimL zs = limbs (nval zs).toNat := trimL_limbs hk
  have HLM := Lib.hid hlm
  clear hA hm hlm hk
  go_enter Try.func63, Try.ntmps63
  go_wp2_with fail
  go_loop [4] (fun v => ∃ k : Nat, k ≤ zs.length ∧ v = .int .i64 k ∧ trimL (zs.take k) = trimL zs) (fun v => (intOf v).toNat)
  case atStart => exact ⟨zs.length, Nat.le_refl _, rfl, by rw [List.take_length]⟩
  case round =>
    obtain ⟨k, hk, rfl, ht⟩ := hrel
    have HT := Lib.hid ht
    clear ht
    -- the loop's end, at k limbs
    have fin : trimL zs = zs.take k → (Hid (48 < k ∧ fitN (nval zs).toNat = 0 ∧ fitE (nval zs).toNat = 2)) ∨ Hid (k ≤ 48 ∧ zs.take k = limbs (fitN (nval zs).toNat) ∧ fitE (nval zs).toNat = 0) := by
      intro he
      have hlen : (limbs (nval zs).toNat).length = k := by rw [← HLM.out, he, List.length_take]; omega
      rcases Nat.lt_or_ge 48 k with h | h
      · left
        have : ¬ (nval zs).toNat < 1000000000 ^ 48 := fun h2 => by have := limbs_len_le.mpr h2; omega
        exact ⟨h, if_neg this, if_neg this⟩
      · right
        have : (nval zs).toNat < 1000000000 ^ 48 := limbs_len_le.mp (by omega)
        exact ⟨h, by rw [fitN, if_pos this, ← HLM.out, he], if_pos this⟩
    have FIN := Lib.hid fin
    have HAL := Lib.hid ((Holds.take HS.out k).below (below_alloc w (.cells #[] 3)) (Nat.le_refl _))
    have HOE := Lib.hid (own_empty w)
    have htl : (zs.take k).length = k := by rw [List.length_take]; omega
    have HTL := Lib.hid htl
    have HLEN := Lib.hid (show ([] : List Int).length + (zs.take k).length ≤ 1000000 by rw [htl]; simp; omega)
    have hkc : (k : Int) ≤ (c : Int) := by omega
    clear fin htl
    rcases Nat.eq_zero_or_pos k with rfl | hp
    · have he := HT.out
      rw [List.take_zero] at he
      rcases FIN.out (by rw [List.take_zero]; exact he.symm) with hf | hf
      · exact absurd hf.out.1 (by omega)
      · clear he
        go_wp2_with (first
          | (at_builtin; refine append_holds rfl (.tmp 21) (.tmp 24) rfl w.heap.size _ [] rfl HOE.out 0 w.heap.size A c (zs.take 0) 0 rfl rfl HAL.out HLEN.out (by simp) ?_; intro v' w5 hown hgrow; refine Hid.out ?_)
          | fail)
        refine Lib.hid ?_
        rw [List.nil_append] at hown
        have hb5 : Below w.heap.size w w5 := (below_alloc _ _).grown hgrow (by simp) (own_block_ge HOE.out)
        have HSL := Lib.hid (sl_of_owns hown)
        have HB5 := Lib.hid hb5
        clear hown hgrow hb5
        go_wp2_with fail
        go_ret2
        exact ⟨v', by rw [hf.out.2.2]; rfl, by rw [← hf.out.2.1]; exact HSL.out, HB5.out⟩
    · obtain ⟨k, rfl⟩ : ∃ j, k = j + 1 := ⟨k - 1, by omega⟩
      obtain ⟨z, hz⟩ : ∃ z, zs[k]? = some z := ⟨_, List.getElem?_eq_getElem (by omega)⟩
      obtain ⟨b, off, rfl, _, _, hcell⟩ := HS.out _ z hz
      have HZ := Lib.hid hz
      clear hz
      have e2 : ((k + 1 : Nat) : Int) - 1 = k := by omega
      by_cases h0 : z = 0
      · subst h0
        go_wp2_with fail
        go_round
        case rel =>
          refine ⟨k, by omega, by go_num, ?_⟩
          rw [← HT.out, trim_step HZ.out, trimL_snoc_zero]
        case measure => simp [intOf] <;> omega
      · have H0 := Lib.hid h0
        have he : trimL zs = zs.take (k + 1) := by rw [← HT.out, trim_step HZ.out, trimL_snoc H0.out]
        rcases FIN.out he with hf | hf
        · have h48 : (48 : Int) < ((k + 1 : Nat) : Int) := by have := hf.out.1; omega
          clear he
          go_wp2_with fail
          go_ret2
          exact Res.none hf.out.2.1 hf.out.2.2 rfl (Below.refl _ _)
        · have h48 : decide ((48 : Int) < (k : Int) + 1) = false := decide_eq_false (by have := hf.out.1; omega)
          clear he
          go_wp2_with (first
            | (at_builtin; refine append_holds rfl (.tmp 21) (.tmp 24) rfl w.heap.size _ [] rfl HOE.out 0 w.heap.size (some ⟨b, off, none⟩) c (zs.take (k + 1)) (k + 1) HTL.out.symm rfl HAL.out HLEN.out (by simp) ?_; intro v' w5 hown hgrow; refine Hid.out ?_)
            | fail)
          refine Lib.hid ?_
          rw [List.nil_append] at hown
          have hb5 : Below w.heap.size w w5 := (below_alloc _ _).grown hgrow (by simp) (own_block_ge HOE.out)
          have HSL := Lib.hid (sl_of_owns hown)
          have HB5 := Lib.hid hb5
          clear hown hgrow hb5
          go_wp2_with fail
          go_ret2
          exact ⟨v', by rw [hf.out.2.2]; rfl, by rw [← hf.out.2.1]; exact HSL.out, HB5.out⟩
end Go.Proofs.Ytohfaoclemcfaaa
/- Contracts of Add, minus, Sub of the reference; the walk of NatSums. -/
namespace Go.Proofs.Ytohfaoclemcfaaa
open Go.ChangeShapes Go.WideShapes Go.RowKit
set_option linter.unusedVariables false
set_option maxRecDepth 100000

theorem lok_snoc {ds : List Int} {x : Int} (h : lok ds = true) (h0 : 0 ≤ x) (h1 : x < 1000000000) : lok (ds ++ [x]) = true := by
  rw [lok_append]; exact ⟨h, by simp [lok, h0, h1]⟩
theorem radd_step {xs ys ds : List Int} {k : Nat} {c T : Int} (hl : ds.length = k) (hv : nval ds + 1000000000 ^ k * (c + nval (xs.drop k) + nval (ys.drop k)) = T) :
    nval (ds ++ [(xs.getD k 0 + ys.getD k 0 + c) % 1000000000]) + 1000000000 ^ (k + 1) * ((xs.getD k 0 + ys.getD k 0 + c) / 1000000000 + nval (xs.drop (k + 1)) + nval (ys.drop (k + 1))) = T := by
  rw [nval_snoc, hl, ← hv, nval_drop_getD xs k, nval_drop_getD ys k, Int.pow_succ, Int.mul_assoc, Int.add_assoc, ← Int.mul_add]
  congr 2
  have e := Int.emod_add_mul_ediv (xs.getD k 0 + ys.getD k 0 + c) 1000000000
  omega
theorem drop_ge {xs : List Int} {k : Nat} (h : xs.length ≤ k) : nval (xs.drop k) = 0 := by rw [List.drop_eq_nil_of_le h]; rfl

set_option maxHeartbeats 3200000 in
theorem ref_Add (xs ys : List Int) (va vb : Value) (w : World) (ha : In w va xs) (hb : In w vb ys) :
    Calls Try.prog 65 #[va, vb] w (Res w (addV xs ys) (addE xs ys)) := by
  obtain ⟨A, c, rfl, hc, hm, hA⟩ := ha
  obtain ⟨B, d, rfl, hd, hn, hB⟩ := hb
  have HA := Lib.hid hA
  have HB := Lib.hid hB
  have hm1 : xs.length ≤ 9223372036854775807 := Nat.le_trans hc hm
  have hm2 : ys.length ≤ 9223372036854775807 := Nat.le_trans hd hn
  clear hA hB hm hn
  rcases both_cases xs ys with ⟨hx, hbo⟩ | ⟨hx, hy, hbo⟩ | ⟨hx, hy, hbo⟩
  · have HBO := Lib.hid hbo
    clear hbo
    go_enter Try.func65, Try.ntmps65
    go_wp2_with fail
    refine (ref_Valid xs A c _ _ w HA.out hm1).mono ?_
    rintro e w' ⟨rfl, rfl⟩
    go_wp2_with fail
    go_ret2
    exact Res.none (by rw [addV, HBO.out]; rfl) (by rw [addE, HBO.out]; rfl) rfl (Below.refl _ _)
  · have HBO := Lib.hid hbo
    clear hbo
    go_enter Try.func65, Try.ntmps65
    go_wp2_with fail
    refine (ref_Valid xs A c _ _ w HA.out hm1).mono ?_
    rintro e w' ⟨rfl, rfl⟩
    go_wp2_with fail
    refine (ref_Valid ys B d _ _ _ HB.out hm2).mono ?_
    rintro e w' ⟨rfl, rfl⟩
    go_wp2_with fail
    go_ret2
    exact Res.none (by rw [addV, HBO.out]; rfl) (by rw [addE, HBO.out]; rfl) rfl (Below.refl _ _)
  · have HBO := Lib.hid hbo
    have l1 := valid_len hx
    have l2 := valid_len hy
    have HX := Lib.hid (valid_lok hx)
    have HY := Lib.hid (valid_lok hy)
    obtain ⟨i0, hi0, hz0, hz1, hz2⟩ := info_parts info_int
    obtain ⟨M, hM⟩ : ∃ M, M = max xs.length ys.length := ⟨_, rfl⟩
    have m1 : xs.length ≤ M := by omega
    have m2 : ys.length ≤ M := by omega
    have m3 : M ≤ 48 := by omega
    have hMM : ∀ k, M ≤ k → xs.length ≤ k ∧ ys.length ≤ k := by intro k hk; omega
    have HMM := Lib.hid hMM
    clear hbo hM hMM
    go_enter Try.func65, Try.ntmps65
    go_wp2_with fail
    refine (ref_Valid xs A c _ _ w HA.out hm1).mono ?_
    rintro e w' ⟨rfl, rfl⟩
    go_wp2_with fail
    refine (ref_Valid ys B d _ _ _ HB.out hm2).mono ?_
    rintro e w' ⟨rfl, rfl⟩
    go_wp2_with fail
    go_loopw [6, 7, 8] (fun v cv i wr => ∃ (k : Nat) (cc : Int) (ds : List Int), i = .int .i64 k ∧ cv = .int .i64 cc ∧ 0 ≤ cc ∧ cc ≤ 1 ∧ (k : Int) + cc ≤ M + 1 ∧ ds.length = k ∧ lok ds = true ∧
        nval ds + 1000000000 ^ k * (cc + nval (xs.drop k) + nval (ys.drop k)) = nval xs + nval ys ∧ wr.ownsRow w.heap.size 3 1 v ds.length (ds.map (Value.int .i64)) ∧ Below w.heap.size w wr)
      (fun _ cv i _ => (M - (intOf i).toNat) * 2 + (intOf cv).toNat)
    case atStart => exact ⟨0, 0, [], rfl, rfl, by omega, by omega, by omega, rfl, rfl, by simp [nval], World.ownsRow_nil _ _ _ _, Below.refl _ _⟩
    case round =>
      obtain ⟨k, cc, ds, rfl, rfl, c0, c1, hkc, hdl, hdk, hdv, hown, hbel⟩ := hrel
      have HDL := Lib.hid hdl
      have HDK := Lib.hid hdk
      have HDV := Lib.hid hdv
      have HOW := Lib.hid hown
      have HBL := Lib.hid hbel
      have xb := lok_getD HX.out k
      have yb := lok_getD HY.out k
      have hst := radd_step HDL.out HDV.out
      have hca := fun W => ref_at xs A c k 0 w.heap.size W
      obtain ⟨x, hxe⟩ : ∃ x, x = xs.getD k 0 := ⟨_, rfl⟩
      obtain ⟨y, hye⟩ : ∃ y, y = ys.getD k 0 := ⟨_, rfl⟩
      have hax : Calls Try.prog 78 #[.slice A xs.length c, .int .i64 (k : Int)] wr fun e w' => e = .returned (.int .i64 x) ∧ wr = w' := by rw [hxe]; exact ref_at xs A c k _ _ wr (HA.out.below HBL.out (Nat.le_refl _)) (by omega)
      have hay : Calls Try.prog 78 #[.slice B ys.length d, .int .i64 (k : Int)] wr fun e w' => e = .returned (.int .i64 y) ∧ wr = w' := by rw [hye]; exact ref_at ys B d k _ _ wr (HB.out.below HBL.out (Nat.le_refl _)) (by omega)
      rw [← hxe, ← hye] at hst
      rw [← hxe] at xb
      rw [← hye] at yb
      have HAX := Lib.hid hax
      have HAY := Lib.hid hay
      have HST := Lib.hid hst
      obtain ⟨x0, x1⟩ := xb
      obtain ⟨y0, y1⟩ := yb
      have hq := tdiv_nonneg' (n := x + y + cc) (by omega)
      have hr := tmod_nonneg' (n := x + y + cc) (by omega)
      have q0 : 0 ≤ (x + y + cc) / 1000000000 := by omega
      have q1 : (x + y + cc) / 1000000000 ≤ 1 := by omega
      have HXE := Lib.hid hxe
      have HYE := Lib.hid hye
      clear hdl hdk hdv hown hbel hst hca hax hay hxe hye
      have go : (k < xs.length ∨ (xs.length ≤ k ∧ k < ys.length) ∨ (xs.length ≤ k ∧ ys.length ≤ k ∧ 0 < cc)) ∨ (xs.length ≤ k ∧ ys.length ≤ k ∧ decide (0 < cc) = false) := by
        rcases Nat.lt_or_ge k xs.length with h1 | h1
        · left; left; exact h1
        · rcases Nat.lt_or_ge k ys.length with h2 | h2
          · left; right; left; exact ⟨h1, h2⟩
          · rcases Int.lt_or_le 0 cc with h3 | h3
            · left; right; right; exact ⟨h1, h2, h3⟩
            · right; exact ⟨h1, h2, decide_eq_false (by omega)⟩
      rcases go with go | ⟨g1, g2, g3⟩
      · have hkM : (k : Int) + ((x + y + cc) / 1000000000) ≤ M ∨ (k = M ∧ (x + y + cc) / 1000000000 = 0) := by
          rcases Nat.lt_or_ge k M with h | h
          · left; omega
          · right
            have hkk := HMM.out k h
            have e1 : x = 0 := by rw [HXE.out, List.getD_eq_getElem?_getD, List.getElem?_eq_none hkk.1]; rfl
            have e2 : y = 0 := by rw [HYE.out, List.getD_eq_getElem?_getD, List.getElem?_eq_none hkk.2]; rfl
            have hcc : cc = 1 ∨ cc = 0 := by omega
            have : cc = 1 := by
              rcases hcc with h | h
              · exact h
              · exfalso
                rcases go with g | ⟨_, g⟩ | ⟨_, _, g⟩ <;> omega
            omega
        have hcm : (k : Int) + 1 + (x + y + cc) / 1000000000 ≤ M + 1 := by omega
        have hms : (M - (k + 1)) * 2 + ((x + y + cc) / 1000000000).toNat < (M - k) * 2 + cc.toNat := by
          rcases Nat.lt_or_ge k M with h | h
          · omega
          · have hkk := HMM.out k h
            have hcc1 : cc = 1 := by
              rcases go with g | ⟨_, g⟩ | ⟨_, _, g⟩ <;> omega
            omega
        have HCM := Lib.hid hcm
        have HMS := Lib.hid hms
        have hk49 : k ≤ 49 := by omega
        have hdlen : ds.length ≤ 49 := by rw [HDL.out]; exact hk49
        clear hkM hcm hms
        rcases go with g | ⟨g, g'⟩ | ⟨g, g', g''⟩
        all_goals
          go_wp2_with fail
          refine HAX.out.mono ?_
          rintro e w' ⟨rfl, rfl⟩
          go_wp2_with fail
          refine HAY.out.mono ?_
          rintro e w' ⟨rfl, rfl⟩
          go_wp2_with (first
            | (at_builtin; refine wpList_append_own _ rfl _ _ 25 rfl w.heap.size 3 i0 (.int .i64 0) 1 8 Try.underlying25 hi0 hz0 hz1 hz2 rfl (by decide) _ _ _ rfl (HOW.out.alloc _) ⟨wr.heap.size, 0, none⟩ 1 1 [.int .i64 ((x + y + cc) % 1000000000)] rfl rfl (by intro j u hj; match j, hj with | 0, hj => simp at hj; subst hj; simp [Addr.add]) (by intro u hu; simp at hu; subst hu; rfl) (by unfold maxLen; omega) (by omega) (by have := HBL.out.size; simp; omega) ?_; intro v' w1 hown' hgrow _; refine Hid.out ?_)
            | fail)
          refine Lib.hid ?_
          have hb1 : Below w.heap.size w w1 := (HBL.out.alloc HBL.out.size _).grown hgrow (by have := HBL.out.size; simp; omega) (own_block_ge HOW.out)
          have HOW1 := Lib.hid (own_snoc hown')
          have HB1 := Lib.hid hb1
          clear hown' hgrow hb1
          go_wp2_with fail
          go_roundw
          case rel => exact ⟨k + 1, _, ds ++ [(x + y + cc) % 1000000000], by go_num, rfl, q0, q1, by have := HCM.out; omega, by rw [List.length_append, HDL.out]; rfl, lok_snoc HDK.out (by omega) (by omega), HST.out, HOW1.out, HB1.out⟩
          case measure =>
            have h1 := HMS.out
            simp only [intOf]
            have e : ((k : Int) + 1).toNat = k + 1 := by omega
            have e2 : ((k : Int)).toNat = k := by omega
            rw [e, e2]; exact h1
      · have hv := HDV.out
        have h3 : cc = 0 := by have := of_decide_eq_false g3; omega
        rw [drop_ge g1, drop_ge g2, h3] at hv
        have hv' : nval ds = nval xs + nval ys := by simpa using hv
        have hk49 : ds.length ≤ 49 := by rw [HDL.out]; omega
        have hfit := ref_fit ds _ wr (sl_of_owns HOW.out).toIn HDK.out (by omega)
        rw [hv'] at hfit
        have HFIT := Lib.hid hfit
        clear hv hv' h3 hfit
        go_wp2_with fail
        refine HFIT.out.mono ?_
        rintro e w5 ⟨v5, rfl, hs5, hb5⟩
        have HS5 := Lib.hid hs5
        have HB5 := Lib.hid hb5
        clear hs5 hb5
        go_wp2_with fail
        go_ret2
        exact ⟨v5, by rw [addE, HBO.out]; rfl, by rw [addV, HBO.out]; exact HS5.out.more HBL.out.size (Nat.le_refl _), bstep HBL.out HB5.out⟩
end Go.Proofs.Ytohfaoclemcfaaa
/- Contracts of minus and Sub of the reference; the walk of NatSums. -/
namespace Go.Proofs.Ytohfaoclemcfaaa
open Go.ChangeShapes Go.WideShapes Go.RowKit
set_option linter.unusedVariables false
set_option maxRecDepth 100000

theorem rmin_step {xs ys ds : List Int} {k : Nat} {x y bo b' T : Int} (hl : ds.length = k) (hx : xs.getD k 0 = x) (hy : ys.getD k 0 = y) (hv : nval ds + 1000000000 ^ k * (nval (xs.drop k) - nval (ys.drop k) - bo) = T) :
    nval (ds ++ [x - y - bo + 1000000000 * b']) + 1000000000 ^ (k + 1) * (nval (xs.drop (k + 1)) - nval (ys.drop (k + 1)) - b') = T := by
  rw [nval_snoc, hl, ← hv, nval_drop_getD xs k, nval_drop_getD ys k, hx, hy, Int.pow_succ, Int.mul_assoc, Int.add_assoc, ← Int.mul_add]
  congr 2
  omega
theorem rmin_end {xs ys ds : List Int} {bo : Int} (hx : lok xs = true) (hy : lok ys = true) (hle : nval ys ≤ nval xs) (hdl : ds.length = xs.length) (hdk : lok ds = true) (b0 : 0 ≤ bo)
    (hv : nval ds + 1000000000 ^ xs.length * (nval (xs.drop xs.length) - nval (ys.drop xs.length) - bo) = nval xs - nval ys) : nval ds = nval xs - nval ys := by
  rw [List.drop_length] at hv
  have h1 := nval_nonneg (lok_drop hy xs.length)
  have h2 := nval_lt hdk
  rw [hdl] at h2
  have e0 : nval ([] : List Int) = 0 := rfl
  rw [e0] at hv
  rcases Int.lt_or_le 0 (nval (ys.drop xs.length) + bo) with h | h
  · exfalso
    have p := pow_pos' xs.length
    have : (1000000000 : Int) ^ xs.length * (0 - nval (ys.drop xs.length) - bo) ≤ 1000000000 ^ xs.length * (-1) := Int.mul_le_mul_of_nonneg_left (by omega) (Int.le_of_lt p)
    omega
  · have e : (0 : Int) - nval (ys.drop xs.length) - bo = 0 := by omega
    rw [e, Int.mul_zero] at hv
    omega

theorem one_cell (w : World) (t : TypeId) (x : Value) (j : Nat) (u : Value) (hj : [x][j]? = some u) : (w.alloc (.cells #[x] t)).cell? ((⟨w.heap.size, 0, none⟩ : Addr).add j) = some u := by
  match j, hj with
  | 0, hj =>
    obtain rfl : x = u := by simpa using hj
    show (w.alloc (.cells #[x] t)).cell? ⟨w.heap.size, 0, none⟩ = some x
    rw [cell_of_row _ w.heap.size 0 #[x] t (0, 0) (heap_alloc_new w _)]
    rfl

set_option maxHeartbeats 3200000 in
theorem ref_minus (xs ys : List Int) (va vb : Value) (w : World) (ha : In w va xs) (hb : In w vb ys) (hx : lok xs = true) (hy : lok ys = true) (hl : xs.length ≤ 1000)
    (hle : nval ys ≤ nval xs) (hfit : (nval xs - nval ys).toNat < 1000000000 ^ 48) :
    Calls Try.prog 77 #[va, vb] w (GcdRes w (nval xs - nval ys).toNat) := by
  obtain ⟨A, c, rfl, hc, hm, hA⟩ := ha
  obtain ⟨B, d, rfl, hd, hn, hB⟩ := hb
  have HA := Lib.hid hA
  have HB := Lib.hid hB
  have HX := Lib.hid hx
  have HY := Lib.hid hy
  have HLE := Lib.hid hle
  have HF := Lib.hid (show fitN (nval xs - nval ys).toNat = (nval xs - nval ys).toNat from if_pos hfit)
  obtain ⟨i0, hi0, hz0, hz1, hz2⟩ := info_parts info_int
  clear hA hB hm hn hx hy hle hfit
  go_enter Try.func77, Try.ntmps77
  go_wp2_with fail
  go_loopw [5, 6, 7] (fun v bv i wr => ∃ (k : Nat) (bo : Int) (ds : List Int), k ≤ xs.length ∧ i = .int .i64 k ∧ bv = .int .i64 bo ∧ 0 ≤ bo ∧ bo ≤ 1 ∧ ds.length = k ∧ lok ds = true ∧
      nval ds + 1000000000 ^ k * (nval (xs.drop k) - nval (ys.drop k) - bo) = nval xs - nval ys ∧ wr.ownsRow w.heap.size 3 1 v ds.length (ds.map (Value.int .i64)) ∧ Below w.heap.size w wr)
    (fun _ _ i _ => xs.length - (intOf i).toNat)
  case atStart => exact ⟨0, 0, [], Nat.zero_le _, rfl, rfl, by omega, by omega, rfl, rfl, by simp [nval], World.ownsRow_nil _ _ _ _, Below.refl _ _⟩
  case round =>
    obtain ⟨k, bo, ds, hk, rfl, rfl, b0, b1, hdl, hdk, hdv, hown, hbel⟩ := hrel
    have HDL := Lib.hid hdl
    have HDK := Lib.hid hdk
    have HDV := Lib.hid hdv
    have HOW := Lib.hid hown
    have HBL := Lib.hid hbel
    clear hdl hdk hdv hown hbel
    rcases Nat.lt_or_ge k xs.length with hlt | hge
    · obtain ⟨x, hx⟩ : ∃ x, xs[k]? = some x := ⟨_, List.getElem?_eq_getElem hlt⟩
      obtain ⟨b, off, rfl, _, _, hcell⟩ := (HA.out.below HBL.out (Nat.le_refl _)) k x hx
      have xb := lok_at HX.out hx
      have hxg : xs.getD k 0 = x := by rw [List.getD_eq_getElem?_getD, hx]; rfl
      obtain ⟨y, hye⟩ : ∃ y, ys.getD k 0 = y := ⟨_, rfl⟩
      have yb := lok_getD HY.out k
      rw [hye] at yb
      have hay : ∀ n, Calls Try.prog 78 #[.slice B ys.length d, .int .i64 (k : Int)] (wr.drewN n) fun e w' => e = .returned (.int .i64 y) ∧ w' = wr.drewN n := by
        intro n
        rw [← hye]
        exact (ref_at ys B d k _ _ (wr.drewN n) ((HB.out.below HBL.out (Nat.le_refl _)).keep fun _ _ _ => rfl) (by omega)).mono fun _ _ h => ⟨h.1, h.2.symm⟩
      have HAY := Lib.hid hay
      have HXG := Lib.hid hxg
      have HYE := Lib.hid hye
      have hdlen : ds.length ≤ 1000 := by rw [HDL.out]; omega
      obtain ⟨x0, x1⟩ := xb
      obtain ⟨y0, y1⟩ := yb
      clear hx hxg hye hay
      rcases Int.lt_or_le (x - y - bo) 0 with hs | hs
      · have HST := Lib.hid (rmin_step (b' := 1) HDL.out HXG.out HYE.out HDV.out)
        go_wp2_with fail
        go_quiet ((go_at_call 78; exact Calls.quiet_of_same (HAY.out _)))
        have hown2 : (wr.drewN nq).ownsRow w.heap.size 3 1 _ ds.length (ds.map (Value.int .i64)) := own_keep HOW.out (below_drewN (Below.refl _ _) _)
        have HOW2 := Lib.hid hown2
        have HBL2 := Lib.hid (below_drewN HBL.out nq)
        clear hown2
        go_wp2_with (first
          | (at_builtin; refine wpList_append_own _ rfl _ _ 25 rfl w.heap.size 3 i0 (.int .i64 0) 1 8 Try.underlying25 hi0 hz0 hz1 hz2 rfl (by decide) _ _ _ rfl (HOW2.out.alloc _) ⟨(wr.drewN nq).heap.size, 0, none⟩ 1 1 [.int .i64 (x - y - bo + 1000000000)] rfl rfl (one_cell _ _ _) (by intro u hu; simp at hu; subst hu; rfl) (by unfold maxLen; omega) (by omega) (by have := HBL2.out.size; simp at this ⊢; omega) ?_; intro v' w1 hown' hgrow _; refine Hid.out ?_)
          | fail)
        refine Lib.hid ?_
        have hb1 : Below w.heap.size w w1 := (HBL2.out.alloc HBL2.out.size _).grown hgrow (by have := HBL2.out.size; simp at this ⊢; omega) (own_block_ge HOW2.out)
        have HOW1 := Lib.hid (own_snoc hown')
        have HB1 := Lib.hid hb1
        clear hown' hgrow hb1
        go_wp2_with fail
        go_roundw
        case rel =>
          have e : x - y - bo + 1000000000 = x - y - bo + 1000000000 * 1 := by omega
          refine ⟨k + 1, 1, ds ++ [x - y - bo + 1000000000], by omega, by go_num, rfl, by omega, by omega, by rw [List.length_append, HDL.out]; rfl, lok_snoc HDK.out (by omega) (by omega), ?_, HOW1.out, HB1.out⟩
          rw [e]; exact HST.out
        case measure => simp [intOf]; omega
      · have HST := Lib.hid (rmin_step (b' := 0) HDL.out HXG.out HYE.out HDV.out)
        go_wp2_with fail
        go_quiet ((go_at_call 78; exact Calls.quiet_of_same (HAY.out _)))
        have hown2 : (wr.drewN nq).ownsRow w.heap.size 3 1 _ ds.length (ds.map (Value.int .i64)) := own_keep HOW.out (below_drewN (Below.refl _ _) _)
        have HOW2 := Lib.hid hown2
        have HBL2 := Lib.hid (below_drewN HBL.out nq)
        have hs' : decide (x - y - bo < 0) = false := decide_eq_false (by omega)
        clear hown2
        go_wp2_with (first
          | (at_builtin; refine wpList_append_own _ rfl _ _ 25 rfl w.heap.size 3 i0 (.int .i64 0) 1 8 Try.underlying25 hi0 hz0 hz1 hz2 rfl (by decide) _ _ _ rfl (HOW2.out.alloc _) ⟨(wr.drewN nq).heap.size, 0, none⟩ 1 1 [.int .i64 (x - y - bo)] rfl rfl (one_cell _ _ _) (by intro u hu; simp at hu; subst hu; rfl) (by unfold maxLen; omega) (by omega) (by have := HBL2.out.size; simp at this ⊢; omega) ?_; intro v' w1 hown' hgrow _; refine Hid.out ?_)
          | fail)
        refine Lib.hid ?_
        have hb1 : Below w.heap.size w w1 := (HBL2.out.alloc HBL2.out.size _).grown hgrow (by have := HBL2.out.size; simp at this ⊢; omega) (own_block_ge HOW2.out)
        have HOW1 := Lib.hid (own_snoc hown')
        have HB1 := Lib.hid hb1
        clear hown' hgrow hb1
        go_wp2_with fail
        go_roundw
        case rel =>
          have e : x - y - bo = x - y - bo + 1000000000 * 0 := by omega
          refine ⟨k + 1, 0, ds ++ [x - y - bo], by omega, by go_num, rfl, by omega, by omega, by rw [List.length_append, HDL.out]; rfl, lok_snoc HDK.out hs (by omega), ?_, HOW1.out, HB1.out⟩
          rw [e]; exact HST.out
        case measure => simp [intOf]; omega
    · obtain rfl : k = xs.length := by omega
      have hv := rmin_end HX.out HY.out HLE.out HDL.out HDK.out b0 HDV.out
      have hfit := ref_fit ds _ wr (sl_of_owns HOW.out).toIn HDK.out (by rw [HDL.out]; omega)
      rw [hv, HF.out] at hfit
      have HFIT := Lib.hid hfit
      clear hv hfit
      go_wp2_with fail
      refine HFIT.out.mono ?_
      rintro e w5 ⟨v5, rfl, hs5, hb5⟩
      have HS5 := Lib.hid hs5
      have HB5 := Lib.hid hb5
      clear hs5 hb5
      go_wp2_with fail
      go_ret
      exact ⟨v5, rfl, HS5.out.more HBL.out.size (Nat.le_refl _), bstep HBL.out HB5.out⟩

theorem sub_fit {xs ys : List Int} (hx : validB xs = true) (hy : validB ys = true) (hle : nval ys ≤ nval xs) : (nval xs - nval ys).toNat < 1000000000 ^ 48 := by
  have h0 := nval_nonneg (valid_lok hy)
  have hl := nrm_limbs (valid_nrm hx)
  have : (nval xs).toNat < 1000000000 ^ 48 := limbs_len_le.mp (by rw [← hl]; exact valid_len hx)
  exact Nat.lt_of_le_of_lt (by omega) this

set_option maxHeartbeats 1600000 in
theorem ref_Sub (xs ys : List Int) (va vb : Value) (w : World) (ha : In w va xs) (hb : In w vb ys) :
    Calls Try.prog 67 #[va, vb] w (Res w (subV xs ys) (subE xs ys)) := by
  obtain ⟨A, c, rfl, hc, hm, hA⟩ := ha
  obtain ⟨B, d, rfl, hd, hn, hB⟩ := hb
  have HIA := Lib.hid (show In w (.slice A xs.length c) xs from ⟨A, c, rfl, hc, hm, hA⟩)
  have HIB := Lib.hid (show In w (.slice B ys.length d) ys from ⟨B, d, rfl, hd, hn, hB⟩)
  have HA := Lib.hid hA
  have HB := Lib.hid hB
  have hm1 : xs.length ≤ 9223372036854775807 := Nat.le_trans hc hm
  have hm2 : ys.length ≤ 9223372036854775807 := Nat.le_trans hd hn
  clear hA hB hm hn
  rcases both_cases xs ys with ⟨hx, hbo⟩ | ⟨hx, hy, hbo⟩ | ⟨hx, hy, hbo⟩
  · have HBO := Lib.hid hbo
    clear hbo
    go_enter Try.func67, Try.ntmps67
    go_wp2_with fail
    refine (ref_Valid xs A c _ _ w HA.out hm1).mono ?_
    rintro e w' ⟨rfl, rfl⟩
    go_wp2_with fail
    go_ret2
    exact Res.none (by rw [subV, HBO.out]; rfl) (by rw [subE, HBO.out]; rfl) rfl (Below.refl _ _)
  · have HBO := Lib.hid hbo
    clear hbo
    go_enter Try.func67, Try.ntmps67
    go_wp2_with fail
    refine (ref_Valid xs A c _ _ w HA.out hm1).mono ?_
    rintro e w' ⟨rfl, rfl⟩
    go_wp2_with fail
    refine (ref_Valid ys B d _ _ _ HB.out hm2).mono ?_
    rintro e w' ⟨rfl, rfl⟩
    go_wp2_with fail
    go_ret2
    exact Res.none (by rw [subV, HBO.out]; rfl) (by rw [subE, HBO.out]; rfl) rfl (Below.refl _ _)
  · have HBO := Lib.hid hbo
    have l1 := valid_len hx
    have l2 := valid_len hy
    have HX := Lib.hid hx
    have HY := Lib.hid hy
    have HCC := Lib.hid (ref_compare xs ys A B c d _ _ _ _ w HA.out HB.out (Nat.le_refl _) (Nat.le_refl _) (valid_nrm hx) (valid_nrm hy) (by omega) (by omega))
    rcases Int.lt_or_le (nval xs) (nval ys) with hlt | hge
    · have hcm : cmpI (nval xs) (nval ys) = -1 := cmpI_lt hlt
      have HLT := Lib.hid hlt
      clear hbo hlt
      go_enter Try.func67, Try.ntmps67
      go_wp2_with fail
      refine (ref_Valid xs A c _ _ w HA.out hm1).mono ?_
      rintro e w' ⟨rfl, rfl⟩
      go_wp2_with fail
      refine (ref_Valid ys B d _ _ _ HB.out hm2).mono ?_
      rintro e w' ⟨rfl, rfl⟩
      go_wp2_with fail
      refine HCC.out.mono ?_
      rintro e w' ⟨rfl, hbel⟩
      go_wp2_with fail
      go_ret2
      exact Res.none (by rw [subV, HBO.out, if_pos rfl, if_pos HLT.out]) (by rw [subE, HBO.out, if_pos rfl, if_pos HLT.out]) rfl hbel
    · have hcm : decide (cmpI (nval xs) (nval ys) < 0) = false := by
        refine decide_eq_false ?_
        rcases Int.lt_or_eq_of_le hge with h | h
        · rw [cmpI_gt h]; decide
        · rw [← h, cmpI_eq]; decide
      have HGE := Lib.hid hge
      clear hbo hge
      go_enter Try.func67, Try.ntmps67
      go_wp2_with fail
      refine (ref_Valid xs A c _ _ w HA.out hm1).mono ?_
      rintro e w' ⟨rfl, rfl⟩
      go_wp2_with fail
      refine (ref_Valid ys B d _ _ _ HB.out hm2).mono ?_
      rintro e w' ⟨rfl, rfl⟩
      go_wp2_with fail
      refine HCC.out.mono ?_
      rintro e w1 ⟨rfl, hbel⟩
      have HB1 := Lib.hid hbel
      clear hbel
      go_wp2_with fail
      refine (ref_minus xs ys _ _ w1 (HIA.out.on HB1.out) (HIB.out.on HB1.out) (valid_lok HX.out) (valid_lok HY.out) (by omega) HGE.out (sub_fit HX.out HY.out HGE.out)).mono ?_
      rintro e w2 ⟨v, rfl, hs, hb2⟩
      have HS := Lib.hid hs
      have HB2 := Lib.hid hb2
      clear hs hb2
      go_wp2_with fail
      go_ret2
      have hf : fitN (nval xs - nval ys).toNat = (nval xs - nval ys).toNat := if_pos (sub_fit HX.out HY.out HGE.out)
      have hf2 : fitE (nval xs - nval ys).toNat = 0 := if_pos (sub_fit HX.out HY.out HGE.out)
      refine ⟨v, ?_, ?_, bstep HB1.out HB2.out⟩
      · rw [subE, HBO.out, if_pos rfl, if_neg (Int.not_lt.mpr HGE.out), hf2]; rfl
      · rw [subV, HBO.out, if_pos rfl, if_neg (Int.not_lt.mpr HGE.out), hf]; exact HS.out.more HB1.out.size (Nat.le_refl _)

theorem res_open {w w' : World} {N : Nat} {err : Int} {e : Ending} (h : Res w N err e w') : ∃ v, e = .returned (.tuple #[v, .int .i64 err]) ∧ In w' v (limbs N) ∧ Below w.heap.size w w' := by
  obtain ⟨v, h1, h2, h3⟩ := h; exact ⟨v, h1, h2.toIn, h3⟩
theorem same_self {xs : List Int} {va vb : Value} {w : World} (ha : In w va xs) (hb : In w vb xs) :
    Calls Try.prog 34 #[va, vb] w fun e w' => e = .returned (.bool true) ∧ Below w.heap.size w w' := by
  refine (same_in xs xs va vb w ha hb).mono ?_
  rintro e w' ⟨rfl, h⟩
  exact ⟨by rw [decide_eq_true rfl], h⟩

end Go.Proofs.Ytohfaoclemcfaaa
