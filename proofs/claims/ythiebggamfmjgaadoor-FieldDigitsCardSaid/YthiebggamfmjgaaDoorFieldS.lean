/- Walk of FieldDigits. -/
import Derived.Test.YthiebggamfmjgaaDoorFieldP
import Derived.Lib.ItoaLen
namespace Go.Proofs.YthiebggamfmjgaaDoor.Field
open Go.ChangeShapes Go.WideShapes Go.RowKit
set_option linter.unusedVariables false
set_option maxRecDepth 100000

/-! ### Decimal forms -/
theorem dgt {d : Nat} (h : d < 10) : (UInt8.ofNat (48 + d)).toNat = 48 + d := by
  show (48 + d) % 256 = 48 + d
  omega
theorem rev_ind {P : List UInt8 → Prop} (h0 : P []) (h1 : ∀ l a, P l → P (l ++ [a])) (L : List UInt8) : P L := by
  have h : ∀ l : List UInt8, P l.reverse := by
    intro l
    induction l with
    | nil => exact h0
    | cons a l ih => rw [List.reverse_cons]; exact h1 _ _ ih
  have := h L.reverse
  rwa [List.reverse_reverse] at this
theorem dval_dec (n : Nat) : dval (Lib.decDigits n) = n := by
  induction n using Nat.strongRecOn with
  | ind n ih =>
    rw [Lib.decDigits]
    split
    · rename_i h
      have := dgt h
      show 0 * 10 + ((UInt8.ofNat (48 + n)).toNat - 48) = n
      omega
    · rename_i h
      have := dgt (d := n % 10) (by omega)
      rw [dval_snoc, ih _ (by omega), this]; omega
theorem dec_all (n : Nat) : (Lib.decDigits n).all isD = true := by
  induction n using Nat.strongRecOn with
  | ind n ih =>
    rw [Lib.decDigits]
    split
    · rename_i h
      have := dgt h
      rw [List.all_cons, isD_yes (by omega) (by omega)]; rfl
    · rename_i h
      have := dgt (d := n % 10) (by omega)
      rw [List.all_append, ih _ (by omega), List.all_cons, isD_yes (by omega) (by omega)]; rfl
theorem dec_ne (n : Nat) : Lib.decDigits n ≠ [] := by
  rw [Lib.decDigits]; split <;> simp
theorem dec_head {n : Nat} (h : 0 < n) : (Lib.decDigits n).headD 0 ≠ 48 := by
  induction n using Nat.strongRecOn with
  | ind n ih =>
    rw [Lib.decDigits]
    split
    · rename_i h10
      intro h2
      have h3 : (UInt8.ofNat (48 + n)).toNat = 48 := congrArg UInt8.toNat h2
      rw [dgt h10] at h3; omega
    · rename_i h10
      have h1 := ih (n / 10) (by omega) (by omega)
      cases hd : Lib.decDigits (n / 10) with
      | nil => exact absurd hd (dec_ne _)
      | cons a l => rw [hd] at h1; simpa using h1
theorem dval_pos {L : List UInt8} (h : L.all isD = true) (h1 : L ≠ []) (h2 : L.headD 0 ≠ 48) : 0 < dval L := by
  revert h h1 h2
  refine rev_ind (P := fun L => L.all isD = true → L ≠ [] → L.headD 0 ≠ 48 → 0 < dval L) (by intro _ h1; exact absurd rfl h1) ?_ L
  · intro L b ih h h1 h2
    rw [List.all_append, Bool.and_eq_true] at h
    have hb : isD b = true := by simpa using h.2
    have hbb := isD_iff.mp hb
    rw [dval_snoc]
    cases L with
    | nil =>
      have : b.toNat ≠ 48 := by
        intro h3; apply h2; apply UInt8.toNat_inj.mp; simpa using h3
      simp [dval, dfold]; omega
    | cons a l =>
      have := ih h.1 (by simp) (by simpa using h2)
      omega
theorem dec_dval {L : List UInt8} (h : L.all isD = true) (h1 : L ≠ []) (h2 : L = [48] ∨ L.headD 0 ≠ 48) : Lib.decDigits (dval L) = L := by
  revert h h1 h2
  refine rev_ind (P := fun L => L.all isD = true → L ≠ [] → (L = [48] ∨ L.headD 0 ≠ 48) → Lib.decDigits (dval L) = L) (by intro _ h1; exact absurd rfl h1) ?_ L
  · intro L b ih h h1 h2
    rw [List.all_append, Bool.and_eq_true] at h
    have hb : isD b = true := by simpa using h.2
    have hbb := isD_iff.mp hb
    have eb : UInt8.ofNat (48 + (b.toNat - 48)) = b := by
      apply UInt8.toNat_inj.mp; rw [dgt (by omega)]; omega
    rw [dval_snoc]
    cases L with
    | nil =>
      have e0 : dval [] = 0 := rfl
      rw [e0, Nat.zero_mul, Nat.zero_add, Lib.decDigits_one (by omega), eb]; rfl
    | cons a l =>
      have hh : (a :: l).headD 0 ≠ 48 := by
        rcases h2 with h3 | h3
        · simp at h3
        · simpa using h3
      have hp := dval_pos h.1 (by simp) hh
      rw [Lib.decDigits, dif_neg (by omega)]
      have e1 : (dval (a :: l) * 10 + (b.toNat - 48)) / 10 = dval (a :: l) := by omega
      have e2 : (dval (a :: l) * 10 + (b.toNat - 48)) % 10 = b.toNat - 48 := by omega
      rw [e1, e2, eb, ih h.1 (by simp) (Or.inr hh)]
theorem dec_first {n : Nat} {b : UInt8} {r : List UInt8} (h : Lib.decDigits n = b :: r) : isD b = true := by
  have := dec_all n
  rw [h, List.all_cons, Bool.and_eq_true] at this; exact this.1
theorem dec_beg (n : Nat) : ∃ b r, Lib.decDigits n = b :: r ∧ isD b = true ∧ b ≠ 45 ∧ (0 < n → b ≠ 48) := by
  cases hd : Lib.decDigits n with
  | nil => exact absurd hd (dec_ne n)
  | cons b r =>
    have hb := dec_first hd
    refine ⟨b, r, rfl, hb, fun e => ?_, fun h0 e => ?_⟩
    · subst e; exact absurd hb (by decide)
    · have := dec_head h0
      rw [hd] at this; exact this e
/-- The decimal form of a number is read as the number. -/
theorem itoa_dec (n : Int) : decB (Lib.itoa n) = true ∧ valL (Lib.itoa n) = n := by
  by_cases h : n < 0
  · have hi : Lib.itoa n = 45 :: Lib.decDigits (-n).toNat := by unfold Lib.itoa; rw [if_pos h, show n.natAbs = (-n).toNat by omega]
    obtain ⟨b, r, hd, hb, h45, h48⟩ := dec_beg (-n).toNat
    have h48' := h48 (by omega)
    have hdg : dg (Lib.itoa n) = Lib.decDigits (-n).toNat := by rw [hi]; simp [dg]
    refine ⟨?_, ?_⟩
    · have hbeg : begB (Lib.itoa n) = false := by
        unfold begB
        rw [hdg, hd]
        simp [h48']
      unfold decB
      rw [hbeg, hdg, dec_all]; rfl
    · unfold valL
      rw [if_pos (by rw [hi]; rfl), hdg, dval_dec]; omega
  · have hi : Lib.itoa n = Lib.decDigits n.toNat := by unfold Lib.itoa; rw [if_neg h]
    obtain ⟨b, r, hd, hb, h45, h48⟩ := dec_beg n.toNat
    have hdg : dg (Lib.itoa n) = Lib.decDigits n.toNat := by rw [hi, hd]; simp [dg, h45]
    refine ⟨?_, ?_⟩
    · have hbeg : begB (Lib.itoa n) = false := by
        unfold begB
        rw [hdg]
        rcases Nat.eq_zero_or_pos n.toNat with h0 | h0
        · rw [hi, h0]; rw [show Lib.decDigits 0 = [48] by rw [Lib.decDigits_one (by decide)]; rfl]; rfl
        · rw [hd]; simp [h48 h0]
      unfold decB
      rw [hbeg, hdg, dec_all]; rfl
    · unfold valL
      rw [if_neg (by rw [hi, hd]; simpa using h45), hdg, dval_dec]; omega
/-- What is read as a number is its decimal form. -/
theorem dec_itoa {l : List UInt8} (h : decB l = true) : Lib.itoa (valL l) = l := by
  unfold decB at h
  rw [Bool.and_eq_true, Bool.not_eq_true'] at h
  obtain ⟨hbeg, hall⟩ := h
  unfold begB at hbeg
  rw [Bool.or_eq_false_iff] at hbeg
  obtain ⟨he, hz⟩ := hbeg
  have hne : dg l ≠ [] := by intro e; rw [e] at he; cases he
  cases l with
  | nil => exact absurd rfl hne
  | cons c r =>
    by_cases h45 : c = 45
    · subst h45
      have hdg : dg (45 :: r) = r := by simp [dg]
      rw [hdg] at hall hz hne
      have hh : r.headD 0 ≠ 48 := by
        cases r with
        | nil => exact absurd rfl hne
        | cons b t =>
          intro e
          have e' : b = 48 := e
          subst e'
          simp at hz
      have hp := dval_pos hall hne hh
      have hv : valL (45 :: r) = -((dval r : Nat) : Int) := by unfold valL; rw [hdg]; rfl
      rw [hv]
      unfold Lib.itoa
      rw [if_pos (by omega), show (-((dval r : Nat) : Int)).natAbs = dval r by omega, dec_dval hall hne (Or.inr hh)]
    · have hdg : dg (c :: r) = c :: r := by simp [dg, h45]
      rw [hdg] at hall hz hne
      have hh : (c :: r) = [48] ∨ (c :: r).headD 0 ≠ 48 := by
        by_cases e : c = 48
        · subst e
          left
          simpa using hz
        · exact Or.inr e
      have hv : valL (c :: r) = ((dval (c :: r) : Nat) : Int) := by unfold valL; rw [hdg, if_neg (by simpa using h45)]
      rw [hv]
      unfold Lib.itoa
      rw [if_neg (by omega), show (((dval (c :: r) : Nat) : Int)).toNat = dval (c :: r) by omega, dec_dval hall hne hh]
theorem grow_below' (w : World) (k : Nat) (os : Array Obj) : Below w.heap.size w (Sort.grow (w.drewN k) os) := by
  refine ⟨rfl, rfl, rfl, ?_, fun i hi => ?_⟩
  · show w.heap.size ≤ (w.heap ++ os).size; rw [Array.size_append]; omega
  · show (w.heap ++ os)[i]? = _; rw [Array.getElem?_append_left hi]
theorem itoa_is (n : Int) (h0 : -9223372036854775808 ≤ n) (h1 : n ≤ 9223372036854775807) {t : ByteArray} (ht : t = bs (Lib.itoa n)) (w : World) (hw : Lib.TabIs Tryd.prog w "internal/strconv.uint64pow10" .u64 Lib.pow10Tab) :
    Calls Tryd.prog 27 #[.int .i64 n] w fun e w' => e = .returned (.string t) ∧ Below w.heap.size w w' := by
  subst ht
  refine (Tryd.strconv_Itoa n h0 h1 w hw).mono ?_
  rintro e w' ⟨rfl, k, os, rfl⟩
  exact ⟨rfl, grow_below' w k os⟩

set_option maxHeartbeats 6400000 in
theorem walk_FieldDigits (w : World) (n : Int) (hn : (Lit.int .i64 n).wf = true) (s : ByteArray) (hs : s.size ≤ maxLen) (hT : Lay w) :
    Calls Tryd.prog 10 #[.int .i64 n, .string s] w fun e w' => e = .returned (.bool true) ∧ Below w.heap.size w w' := by
  obtain ⟨n0, n1⟩ : -9223372036854775808 ≤ n ∧ n ≤ 9223372036854775807 := by simpa [Lit.wf, IntKind.min, IntKind.max, IntKind.signed, IntKind.bits] using hn
  have hms := max_small hs
  clear hn hs
  by_cases hbig : 200 < s.size
  · have i1 : (200 : Int) < (s.size : Int) := by omega
    clear hT
    go_enter Tryd.func10, Tryd.ntmps10
    go_wp2_with fail
    refine (is_awake _).mono ?_
    rintro e w1 ⟨rfl, hb⟩
    have HB := Lib.hid hb
    clear hb
    go_wp2_with fail
    go_ret
    exact ⟨rfl, HB.out⟩
  · have i1 : decide ((200 : Int) < (s.size : Int)) = false := decide_eq_false (by omega)
    have HT := Lib.hid hT
    obtain ⟨t, ht⟩ : ∃ t, t = bs (Lib.itoa n) := ⟨_, rfl⟩
    have htl : ls t = Lib.itoa n := by rw [ht]; exact bs_list _
    have htz : t.size ≤ 21 := by rw [ht, bs_size]; exact Lib.itoa_length_le n n0 n1
    have HI := Lib.hid (itoa_is n n0 n1 ht w (hT.tab w (Below.refl _ _)))
    obtain ⟨hd, hv⟩ := itoa_dec n
    rw [← htl] at hd hv
    obtain ⟨E2, hE2⟩ : ∃ E, numE (ls s) = E := ⟨_, rfl⟩
    obtain ⟨v2, hv2⟩ : ∃ v, numV (ls s) = v := ⟨_, rfl⟩
    have HS2 : Hid (∀ W : World, Below w.heap.size w W → _) := fun W hW => num_is hE2 hv2 W (by omega) (fun _ => hT.err W hW)
    have HOK : Hid (E2 = 0 → -9223372036854775808 ≤ v2 ∧ v2 ≤ 9223372036854775807 ∧ s = bs (Lib.itoa v2)) := fun h0 => by
      rw [h0] at hE2
      have hdec : decB (ls s) = true := by
        cases h : decB (ls s) with
        | true => rfl
        | false => rw [(numE_form h).1] at hE2; cases hE2
      by_cases hr : valL (ls s) < -1000000000000 ∨ 1000000000000 < valL (ls s)
      · rw [(numE_range hdec hr).1] at hE2; cases hE2
      · have hvv := (numE_ok hdec hr).2
        rw [hv2] at hvv
        refine ⟨by omega, by omega, ?_⟩
        rw [hvv, dec_itoa hdec]; exact (bs_of s).symm
    have HNO : Hid (E2 ≠ 0 → v2 = 0) := fun h0 => by rw [← hv2]; unfold numV; rw [hE2, if_neg h0]
    clear hE2 hv2 hT ht htl hbig
    by_cases hin : -1000000000000 ≤ n ∧ n ≤ 1000000000000
    · have hnr : ¬ (valL (ls t) < -1000000000000 ∨ 1000000000000 < valL (ls t)) := by rw [hv]; omega
      have hnn := numE_ok hd hnr
      rw [hv] at hnn
      have HS1 : Hid (∀ W : World, Below w.heap.size w W → _) := fun W hW => num_is hnn.1 hnn.2 W (by omega) (fun _ => HT.out.err W hW)
      obtain ⟨j1, j2⟩ := hin
      clear hd hv hnr hnn htz
      go_enter Tryd.func10, Tryd.ntmps10
      go_wp2_with fail
      refine HI.out.mono ?_
      rintro e w1 ⟨rfl, hb⟩
      have HB1 := Lib.hid hb
      clear hb
      go_wp2_with fail
      refine (HS1.out _ HB1.out).mono ?_
      rintro e w2 ⟨rfl, hb⟩
      have HB2 := Lib.hid (bstep HB1.out hb)
      clear hb
      go_wp2_with fail
      refine (HS2.out _ HB2.out).mono ?_
      rintro e w3 ⟨rfl, hb⟩
      have HB3 := Lib.hid (bstep HB2.out hb)
      clear hb
      by_cases he : E2 = 0
      · obtain ⟨v0, v1, hsv⟩ := HOK.out he
        have HIT := Lib.hid (itoa_is v2 v0 v1 rfl w3 (HT.out.tab w3 HB3.out))
        have hq := beq_yes (a := bs (Lib.itoa v2)) (b := s) hsv.symm
        subst he
        clear hsv
        go_wp2_with fail
        refine HIT.out.mono ?_
        rintro e w4 ⟨rfl, hb⟩
        have HB4 := Lib.hid (bstep HB3.out hb)
        clear hb
        go_wp2_with fail
        refine (is_awake _).mono ?_
        rintro e w5 ⟨rfl, hb⟩
        have HB5 := Lib.hid (bstep HB4.out hb)
        clear hb
        go_wp2_with fail
        go_ret
        exact ⟨rfl, HB5.out⟩
      · have hv0 := HNO.out he
        have he2 : (E2 == 0) = false := beq_false_of_ne he
        subst hv0
        go_wp2_with fail
        refine (is_awake _).mono ?_
        rintro e w5 ⟨rfl, hb⟩
        have HB5 := Lib.hid (bstep HB3.out hb)
        clear hb
        go_wp2_with fail
        go_ret
        exact ⟨rfl, HB5.out⟩
    · have hnr : valL (ls t) < -1000000000000 ∨ 1000000000000 < valL (ls t) := by rw [hv]; omega
      have hnn := numE_range hd hnr
      have HS1 : Hid (∀ W : World, Below w.heap.size w W → _) := fun W hW => num_is hnn.1 hnn.2 W (by omega) (fun _ => HT.out.err W hW)
      clear hd hv hnr hnn htz
      by_cases j0 : -1000000000000 ≤ n
      · have j2 : ¬ n ≤ 1000000000000 := fun h => hin ⟨j0, h⟩
        have j3 : decide (n ≤ 1000000000000) = false := decide_eq_false j2
        have j4 : 1000000000000 < n := by omega
        clear hin
        go_enter Tryd.func10, Tryd.ntmps10
        go_wp2_with fail
        refine HI.out.mono ?_
        rintro e w1 ⟨rfl, hb⟩
        have HB1 := Lib.hid hb
        clear hb
        go_wp2_with fail
        refine (HS1.out _ HB1.out).mono ?_
        rintro e w2 ⟨rfl, hb⟩
        have HB2 := Lib.hid (bstep HB1.out hb)
        clear hb
        go_wp2_with fail
        refine (HS2.out _ HB2.out).mono ?_
        rintro e w3 ⟨rfl, hb⟩
        have HB3 := Lib.hid (bstep HB2.out hb)
        clear hb
        by_cases he : E2 = 0
        · obtain ⟨v0, v1, hsv⟩ := HOK.out he
          have HIT := Lib.hid (itoa_is v2 v0 v1 rfl w3 (HT.out.tab w3 HB3.out))
          have hq := beq_yes (a := bs (Lib.itoa v2)) (b := s) hsv.symm
          subst he
          clear hsv
          go_wp2_with fail
          refine HIT.out.mono ?_
          rintro e w4 ⟨rfl, hb⟩
          have HB4 := Lib.hid (bstep HB3.out hb)
          clear hb
          go_wp2_with fail
          refine (is_awake _).mono ?_
          rintro e w5 ⟨rfl, hb⟩
          have HB5 := Lib.hid (bstep HB4.out hb)
          clear hb
          go_wp2_with fail
          go_ret
          exact ⟨rfl, HB5.out⟩
        · have hv0 := HNO.out he
          have he2 : (E2 == 0) = false := beq_false_of_ne he
          subst hv0
          go_wp2_with fail
          refine (is_awake _).mono ?_
          rintro e w5 ⟨rfl, hb⟩
          have HB5 := Lib.hid (bstep HB3.out hb)
          clear hb
          go_wp2_with fail
          go_ret
          exact ⟨rfl, HB5.out⟩
      · have j3 : decide (-1000000000000 ≤ n) = false := decide_eq_false j0
        have j4 : n < -1000000000000 := by omega
        clear hin
        go_enter Tryd.func10, Tryd.ntmps10
        go_wp2_with fail
        refine HI.out.mono ?_
        rintro e w1 ⟨rfl, hb⟩
        have HB1 := Lib.hid hb
        clear hb
        go_wp2_with fail
        refine (HS1.out _ HB1.out).mono ?_
        rintro e w2 ⟨rfl, hb⟩
        have HB2 := Lib.hid (bstep HB1.out hb)
        clear hb
        go_wp2_with fail
        refine (HS2.out _ HB2.out).mono ?_
        rintro e w3 ⟨rfl, hb⟩
        have HB3 := Lib.hid (bstep HB2.out hb)
        clear hb
        by_cases he : E2 = 0
        · obtain ⟨v0, v1, hsv⟩ := HOK.out he
          have HIT := Lib.hid (itoa_is v2 v0 v1 rfl w3 (HT.out.tab w3 HB3.out))
          have hq := beq_yes (a := bs (Lib.itoa v2)) (b := s) hsv.symm
          subst he
          clear hsv
          go_wp2_with fail
          refine HIT.out.mono ?_
          rintro e w4 ⟨rfl, hb⟩
          have HB4 := Lib.hid (bstep HB3.out hb)
          clear hb
          go_wp2_with fail
          refine (is_awake _).mono ?_
          rintro e w5 ⟨rfl, hb⟩
          have HB5 := Lib.hid (bstep HB4.out hb)
          clear hb
          go_wp2_with fail
          go_ret
          exact ⟨rfl, HB5.out⟩
        · have hv0 := HNO.out he
          have he2 : (E2 == 0) = false := beq_false_of_ne he
          subst hv0
          go_wp2_with fail
          refine (is_awake _).mono ?_
          rintro e w5 ⟨rfl, hb⟩
          have HB5 := Lib.hid (bstep HB3.out hb)
          clear hb
          go_wp2_with fail
          go_ret
          exact ⟨rfl, HB5.out⟩
#print axioms walk_FieldDigits
end Go.Proofs.YthiebggamfmjgaaDoor.Field
