/- Decimal forms; contracts of isDecimal and Number of the program. -/
import Derived.Test.YthiebggamfmjgaaDoorFieldK
import Derived.Lib.AtoiAllCases
import Derived.Lib.SmallJoins
namespace Go.Proofs.YthiebggamfmjgaaDoor.Field
open Go.ChangeShapes Go.WideShapes Go.RowKit
set_option linter.unusedVariables false
set_option maxRecDepth 100000

def isD (b : UInt8) : Bool := decide (48 ≤ b.toNat) && decide (b.toNat ≤ 57)
/-- The digits: what stands behind a minus sign. -/
def dg : List UInt8 → List UInt8
  | [] => []
  | b :: r => if b = 45 then r else b :: r
/-- No digits, or a leading zero. -/
def begB (l : List UInt8) : Bool := (dg l).isEmpty || ((dg l).head? == some 48 && l != [48])
def decB (l : List UInt8) : Bool := !begB l && (dg l).all isD
def dfold (v : Nat) (l : List UInt8) : Nat := l.foldl (fun v b => v * 10 + (b.toNat - 48)) v
def dval (l : List UInt8) : Nat := dfold 0 l
/-- The number. -/
def valL (l : List UInt8) : Int := if l.head? = some 45 then -((dval (dg l) : Nat) : Int) else ((dval (dg l) : Nat) : Int)
def numE (l : List UInt8) : Int := if decB l then (if valL l < -1000000000000 ∨ 1000000000000 < valL l then 1 else 0) else 3
def numV (l : List UInt8) : Int := if numE l = 0 then valL l else 0
theorem numE_form {l : List UInt8} (h : decB l = false) : numE l = 3 ∧ numV l = 0 := by
  have e : numE l = 3 := by unfold numE; rw [h]; rfl
  exact ⟨e, by unfold numV; rw [e]; rfl⟩
theorem numE_range {l : List UInt8} (h : decB l = true) (hr : valL l < -1000000000000 ∨ 1000000000000 < valL l) : numE l = 1 ∧ numV l = 0 := by
  have e : numE l = 1 := by unfold numE; rw [if_pos h, if_pos hr]
  exact ⟨e, by unfold numV; rw [e]; rfl⟩
theorem numE_ok {l : List UInt8} (h : decB l = true) (hr : ¬ (valL l < -1000000000000 ∨ 1000000000000 < valL l)) : numE l = 0 ∧ numV l = valL l := by
  have e : numE l = 0 := by unfold numE; rw [if_pos h, if_neg hr]
  exact ⟨e, by unfold numV; rw [e]; rfl⟩
theorem dfold_ge : ∀ (l : List UInt8) (v : Nat), v ≤ dfold v l := by
  intro l
  induction l with
  | nil => intro v; exact Nat.le_refl _
  | cons b r ih => intro v; have := ih (v * 10 + (b.toNat - 48)); show v ≤ dfold (v * 10 + (b.toNat - 48)) r; omega
theorem dval_snoc (l : List UInt8) (b : UInt8) : dval (l ++ [b]) = dval l * 10 + (b.toNat - 48) := by simp [dval, dfold]
theorem isD_iff {b : UInt8} : isD b = true ↔ 48 ≤ b.toNat ∧ b.toNat ≤ 57 := by simp [isD]
theorem parse10 : ∀ (l : List UInt8) (v : Nat), l.all isD = true → Lib.parseUint10 v l = .ok (dfold v l) ∨ (Lib.parseUint10 v l = .range ∧ 18446744073709551616 ≤ dfold v l) := by
  intro l
  induction l with
  | nil => intro v _; exact Or.inl rfl
  | cons b r ih =>
    intro v h
    simp only [List.all_cons, Bool.and_eq_true] at h
    have hb := isD_iff.mp h.1
    have hg := dfold_ge r (v * 10 + (b.toNat - 48))
    have e : dfold v (b :: r) = dfold (v * 10 + (b.toNat - 48)) r := rfl
    rw [e, Lib.parseUint10, if_pos hb]
    split
    · exact Or.inr ⟨rfl, by omega⟩
    · split
      · exact Or.inr ⟨rfl, by omega⟩
      · exact ih _ h.2
theorem atoi_dec {l : List UInt8} (h : decB l = true) : Lib.atoiAll l = .ok (valL l) ∨ (Lib.atoiAll l = .range ∧ (valL l < -1000000000000 ∨ 1000000000000 < valL l)) := by
  unfold decB at h
  rw [Bool.and_eq_true, Bool.not_eq_true'] at h
  cases l with
  | nil => have := h.1; simp [begB, dg] at this
  | cons c r =>
    by_cases h45 : c = 45
    · subst h45
      have hd : dg (45 :: r) = r := by simp [dg]
      have hr : r ≠ [] := by intro e; subst e; have := h.1; simp [begB, dg] at this
      rw [hd] at h
      have hv : valL (45 :: r) = -((dval r : Nat) : Int) := by unfold valL; rw [hd]; rfl
      rw [Lib.atoiAll_minus, Lib.parseMag, if_neg hr, hv]
      rcases parse10 r 0 h.2 with e | ⟨e, e2⟩
      · rw [e]
        simp only [Lib.signed]
        split
        · next h1 => exact Or.inr ⟨rfl, Or.inl (by show -((dfold 0 r : Nat) : Int) < _; omega)⟩
        · exact Or.inl rfl
      · rw [e]; exact Or.inr ⟨rfl, Or.inl (by show -((dfold 0 r : Nat) : Int) < _; omega)⟩
    · have hd : dg (c :: r) = c :: r := by simp [dg, h45]
      rw [hd] at h
      have hv : valL (c :: r) = ((dval (c :: r) : Nat) : Int) := by unfold valL; rw [hd, if_neg (by simpa using h45)]
      have hc : isD c = true := by have := h.2; simp only [List.all_cons, Bool.and_eq_true] at this; exact this.1
      have hc2 := isD_iff.mp hc
      rw [Lib.atoiAll_plain c r (by omega) (by omega), Lib.parseMag, if_neg (by simp), hv]
      rcases parse10 (c :: r) 0 h.2 with e | ⟨e, e2⟩
      · rw [e]
        simp only [Lib.signless]
        split
        · next h1 => exact Or.inr ⟨rfl, Or.inr (by show _ < ((dfold 0 (c :: r) : Nat) : Int); omega)⟩
        · exact Or.inl rfl
      · rw [e]; exact Or.inr ⟨rfl, Or.inr (by show _ < ((dfold 0 (c :: r) : Nat) : Int); omega)⟩

/-- The digits as a string. -/
def dgS (s : ByteArray) : ByteArray := bs (dg (ls s))
theorem dgS_ls (s : ByteArray) : ls (dgS s) = dg (ls s) := bs_list _
theorem dg_len : ∀ l : List UInt8, (dg l).length ≤ l.length := by
  intro l
  cases l with
  | nil => simp [dg]
  | cons b r =>
    simp only [dg]
    split <;> simp
theorem dgS_size (s : ByteArray) : (dgS s).size ≤ s.size := by rw [← ls_len, dgS_ls, ← ls_len s]; exact dg_len _
theorem trim_dg (l : List UInt8) : Lib.trimPrefix l [45] = dg l := by
  cases l with
  | nil => rfl
  | cons b r =>
    unfold Lib.trimPrefix Lib.hasPrefix
    simp only [dg]
    by_cases h : b = 45
    · subst h; simp [List.isPrefixOf]
    · rw [if_neg h, if_neg (by simp [List.isPrefixOf]; exact fun e => h e.symm)]
theorem beg_empty {s : ByteArray} (h : (dgS s).size = 0) : begB (ls s) = true := by
  have := emp_iff.mpr h
  rw [dgS_ls] at this
  unfold begB; rw [this]; rfl
theorem dgS_emp {s : ByteArray} (h : 0 < (dgS s).size) : (dg (ls s)).isEmpty = false := by
  cases h1 : (dg (ls s)).isEmpty with
  | false => rfl
  | true => rw [← dgS_ls] at h1; have := emp_iff.mp h1; omega
theorem beg_other {s : ByteArray} (h : 0 < (dgS s).size) (h48 : ((dgS s)[0] == 48) = false) : begB (ls s) = false := by
  have e := ls_head h
  rw [dgS_ls] at e
  unfold begB; rw [dgS_emp h, e]
  have : ((some (dgS s)[0] : Option UInt8) == some 48) = false := by
    rw [Bool.eq_false_iff]; intro e2
    have := Option.some.inj (beq_iff_eq.mp e2)
    rw [this] at h48; cases h48
  rw [this]; rfl
theorem beg_zero {s : ByteArray} (h : 0 < (dgS s).size) (h48 : ((dgS s)[0] == 48) = true) : begB (ls s) = !(s.toList == [48]) := by
  have e := ls_head h
  rw [dgS_ls] at e
  unfold begB; rw [dgS_emp h, e, beq_iff_eq.mp h48, ByteArray.toList_eq]
  show (false || ((some (48 : UInt8) == some 48) && (ls s != [48]))) = _
  rw [show ((some (48 : UInt8)) == some 48) = true from rfl, Bool.false_or, Bool.true_and]; rfl
def digT (d : ByteArray) (k : Nat) : Prop := (d.data.toList.take k).all isD = true
theorem digT_next {d : ByteArray} {k : Nat} {b : UInt8} (h : digT d k) (hg : d.data.toList[k]? = some b) (hb : isD b = true) : digT d (k + 1) := by
  show _ = true
  rw [take_snoc_of hg, List.all_append, (show _ = true from h)]; simpa using hb
theorem digT_end {s : ByteArray} (h : digT (dgS s) (dgS s).size) (hb : begB (ls s) = false) : decB (ls s) = true := by
  have h1 : ((dgS s).data.toList.take (dgS s).size).all isD = true := h
  rw [← str_len, List.take_length] at h1
  unfold decB
  rw [hb, show (dg (ls s)).all isD = true by rw [← dgS_ls]; exact h1]; rfl
theorem digT_bad {s : ByteArray} {k : Nat} {b : UInt8} (hg : (dgS s).data.toList[k]? = some b) (hb : isD b = false) : decB (ls s) = false := by
  have : (dg (ls s)).all isD = false := by
    rw [← dgS_ls, List.all_eq_false]; exact ⟨b, List.mem_of_getElem? hg, by simp [hb]⟩
  unfold decB; rw [this, Bool.and_false]
theorem beg_dec {s : ByteArray} (h : begB (ls s) = true) : decB (ls s) = false := by unfold decB; rw [h]; rfl
theorem isD_no {b : UInt8} (h : b.toNat < 48 ∨ 57 < b.toNat) : isD b = false := by
  unfold isD
  rcases h with h | h
  · rw [decide_eq_false (by omega)]; rfl
  · rw [decide_eq_false (p := b.toNat ≤ 57) (by omega), Bool.and_false]
theorem isD_yes {b : UInt8} (h1 : 48 ≤ b.toNat) (h2 : b.toNat ≤ 57) : isD b = true := by simp [isD, h1, h2]

set_option maxHeartbeats 1600000 in
theorem field_isDecimal (s : ByteArray) (w : World) (hm : s.size ≤ 9223372036854775807) :
    Calls Tryd.prog 35 #[.string s] w fun e w' => e = .returned (.bool (decB (ls s))) ∧ w = w' := by
  have HC : Hid (Calls Tryd.prog 49 #[.string s, .string ⟨#[45]⟩] w fun e w' => e = .returned (.string (dgS s)) ∧ w' = w) := by
    have h1 := Tryd.strings_TrimPrefix s ⟨#[45]⟩ w
    rw [show (⟨(Lib.trimPrefix s.data.toList (ByteArray.mk #[45]).data.toList).toArray⟩ : ByteArray) = dgS s from congrArg bs (trim_dg (ls s))] at h1
    exact h1
  obtain ⟨b, hb⟩ : ∃ b, begB (ls s) = b := ⟨_, rfl⟩
  have HB := Lib.hid hb
  have hds := dgS_size s
  obtain ⟨d, hd⟩ : ∃ d, d = dgS s := ⟨_, rfl⟩
  rw [← hd] at HC hds
  have HD := Lib.hid hd
  clear hb hd
  go_enter Tryd.func35, Tryd.ntmps35
  go_wp2_with fail
  refine HC.out.mono ?_
  rintro e1 w1 ⟨rfl, rfl⟩
  go_upto_region 2 with fail
  go_cut [17] (fun x wc => x = .bool b ∧ w1 = wc)
  case first =>
    rcases Nat.eq_zero_or_pos d.size with h0 | h0
    · have hq : d.toList.isEmpty = true := by rw [emp_size, decide_eq_true h0]
      have e : Hid (true = b) := (beg_empty (s := s) (by rw [← HD.out]; exact h0)).symm.trans HB.out
      clear h0
      go_wp2_with fail
      go_meet
      case rel => exact ⟨congrArg Value.bool e.out, rfl⟩
    · have hq : d.toList.isEmpty = false := by rw [emp_size, decide_eq_false (by omega)]
      have hb48 := byt_beq (b := d[0]) 48 (n := 48) rfl
      cases h48 : d[0] == 48 with
      | false =>
        rw [h48] at hb48
        have e : Hid (false = b) := by
          have h := HD.out
          subst h
          exact (beg_other h0 h48).symm.trans HB.out
        clear h48
        go_wp2_with fail
        go_meet
        case rel => exact ⟨congrArg Value.bool e.out, rfl⟩
      | true =>
        rw [h48] at hb48
        obtain ⟨z, hz⟩ : ∃ z, (s.toList == [48]) = z := ⟨_, rfl⟩
        have e : Hid ((!z) = b) := by
          have h := HD.out
          subst h
          rw [← hz]
          exact (beg_zero h0 h48).symm.trans HB.out
        clear h48
        cases z <;>
        · go_wp2_with fail
          go_meet
          case rel => exact ⟨congrArg Value.bool e.out, rfl⟩
  case rest =>
    obtain ⟨rfl, rfl⟩ := hcut
    cases b with
    | true =>
      have HE := Lib.hid (beg_dec HB.out)
      go_wp2_with fail
      go_ret
      exact ⟨ret_bool HE.out.symm, rfl⟩
    | false =>
      go_wp2_with fail
      go_loop [20] (fun i => ∃ k : Nat, k ≤ d.size ∧ i = .int .i64 k ∧ digT d k) (fun i => d.size - (intOf i).toNat)
      case atStart => exact ⟨0, Nat.zero_le _, rfl, rfl⟩
      case round =>
        obtain ⟨k, hk, rfl, ha⟩ := hrel
        have HA := Lib.hid ha
        clear ha
        rcases Nat.lt_or_ge k d.size with hlt | hge
        · have HG := Lib.hid (str_get? d hlt)
          rcases Nat.lt_or_ge d[k].toNat 48 with h1 | h1
          · have hi : ((d[k].toNat : Nat) : Int) < 48 := by omega
            have HE : Hid (decB (ls s) = false) := digT_bad (k := k) (by rw [← HD.out]; exact HG.out) (isD_no (Or.inl h1))
            go_wp2_with fail
            go_ret
            exact ⟨ret_bool HE.out.symm, rfl⟩
          · have hi : decide (((d[k].toNat : Nat) : Int) < 48) = false := decide_eq_false (by omega)
            rcases Nat.lt_or_ge 57 d[k].toNat with h2 | h2
            · have hi2 : (57 : Int) < ((d[k].toNat : Nat) : Int) := by omega
              have HE : Hid (decB (ls s) = false) := digT_bad (k := k) (by rw [← HD.out]; exact HG.out) (isD_no (Or.inr h2))
              go_wp2_with fail
              go_ret
              exact ⟨ret_bool HE.out.symm, rfl⟩
            · have hi2 : decide ((57 : Int) < ((d[k].toNat : Nat) : Int)) = false := decide_eq_false (by omega)
              have HN := Lib.hid (digT_next HA.out HG.out (isD_yes h1 h2))
              go_wp2_with fail
              go_round
              case rel => exact ⟨k + 1, by omega, by go_num, HN.out⟩
              case measure => simp [intOf]; omega
        · obtain rfl : k = d.size := by omega
          have HE : Hid (decB (ls s) = true) := digT_end (by rw [← HD.out]; exact HA.out) HB.out
          go_wp2_with fail
          go_ret
          exact ⟨ret_bool HE.out.symm, rfl⟩
theorem dec_is {s : ByteArray} {b : Bool} (h : decB (ls s) = b) (w : World) (hm : s.size ≤ 9223372036854775807) : Calls Tryd.prog 35 #[.string s] w fun e w' => e = .returned (.bool b) ∧ w = w' := h ▸ field_isDecimal s w hm
theorem ret_ii {k k' : IntKind} {a b c d : Int} (h : a = c) (h2 : b = d) : Ending.returned (.tuple #[.int k a, .int k' b]) = .returned (.tuple #[.int k c, .int k' d]) := by rw [h, h2]

set_option maxHeartbeats 1600000 in
theorem field_Number (s : ByteArray) (w : World) (hm : s.size ≤ 281474976710656) (hR : Lib.atoiAll s.data.toList = .range → ∃ tp p, w.var? Tryd.prog "strconv.ErrRange" = some #[.iface tp p]) :
    Calls Tryd.prog 22 #[.string s] w fun e w' => e = .returned (.tuple #[.int .i64 (numV (ls s)), .int .i64 (numE (ls s))]) ∧ Below w.heap.size w w' := by
  have HR := Lib.hid hR
  clear hR
  cases hd : decB (ls s) with
  | false =>
    have HC := Lib.hid (dec_is hd w (by omega))
    have HE := Lib.hid (numE_form hd)
    clear hd
    go_enter Tryd.func22, Tryd.ntmps22
    go_wp2_with fail
    refine HC.out.mono ?_
    rintro e1 w1 ⟨rfl, rfl⟩
    go_wp2_with fail
    go_ret2
    exact ⟨ret_ii HE.out.2.symm HE.out.1.symm, Below.refl _ _⟩
  | true =>
    have HC := Lib.hid (dec_is hd w (by omega))
    have HD := Lib.hid hd
    rcases atoi_dec hd with ha | ⟨ha, hr⟩
    · obtain ⟨v, hv⟩ : ∃ v, v = valL (ls s) := ⟨_, rfl⟩
      rw [← hv] at ha
      have HA : Hid (Calls Tryd.prog 36 #[.string s] w fun e w' => e = .returned (.tuple #[.int .i64 v, .nilIface]) ∧ Below w.heap.size w w') := by
        refine (Tryd.strconv_Atoi_ok s (by omega) v ha w).mono fun e w' ⟨he, hw⟩ => ⟨he, ?_⟩
        rcases hw with rfl | ⟨t, rfl⟩
        · exact Below.refl _ _
        · exact Joins.below_bytesWorld _ _ _ _ (Nat.le_refl _)
      have HV := Lib.hid hv
      clear hd ha hv
      by_cases h1 : v < -1000000000000
      · have HE := Lib.hid (numE_range HD.out (Or.inl (HV.out ▸ h1)))
        go_enter Tryd.func22, Tryd.ntmps22
        go_wp2_with fail
        refine HC.out.mono ?_
        rintro e1 w1 ⟨rfl, rfl⟩
        go_wp2_with fail
        refine HA.out.mono ?_
        rintro e1 w2 ⟨rfl, hb2⟩
        have HB2 := Lib.hid hb2
        clear hb2
        go_wp2_with fail
        go_ret2
        exact ⟨ret_ii HE.out.2.symm HE.out.1.symm, HB2.out⟩
      · have i1 : decide (v < -1000000000000) = false := decide_eq_false h1
        by_cases h2 : 1000000000000 < v
        · have HE := Lib.hid (numE_range HD.out (Or.inr (HV.out ▸ h2)))
          clear h1
          go_enter Tryd.func22, Tryd.ntmps22
          go_wp2_with fail
          refine HC.out.mono ?_
          rintro e1 w1 ⟨rfl, rfl⟩
          go_wp2_with fail
          refine HA.out.mono ?_
          rintro e1 w2 ⟨rfl, hb2⟩
          have HB2 := Lib.hid hb2
          clear hb2
          go_wp2_with fail
          go_ret2
          exact ⟨ret_ii HE.out.2.symm HE.out.1.symm, HB2.out⟩
        · have i2 : decide (1000000000000 < v) = false := decide_eq_false h2
          have HE := Lib.hid (numE_ok HD.out (by rw [← HV.out]; omega))
          clear h1 h2
          go_enter Tryd.func22, Tryd.ntmps22
          go_wp2_with fail
          refine HC.out.mono ?_
          rintro e1 w1 ⟨rfl, rfl⟩
          go_wp2_with fail
          refine HA.out.mono ?_
          rintro e1 w2 ⟨rfl, hb2⟩
          have HB2 := Lib.hid hb2
          clear hb2
          go_wp2_with fail
          go_ret2
          exact ⟨ret_ii (by rw [HE.out.2, HV.out]) HE.out.1.symm, HB2.out⟩
    · obtain ⟨tp, p, hvar⟩ := HR.out ha
      have HA := Lib.hid (Tryd.strconv_Atoi_range_var s hm ha tp p w hvar)
      have HE := Lib.hid (numE_range HD.out hr)
      clear hd ha hvar hr
      go_enter Tryd.func22, Tryd.ntmps22
      go_wp2_with fail
      refine HC.out.mono ?_
      rintro e1 w1 ⟨rfl, rfl⟩
      go_wp2_with fail
      refine HA.out.mono ?_
      rintro e1 w2 ⟨N, rfl, -, -, hb2⟩
      have HB2 := Lib.hid hb2
      clear hb2
      go_wp2_with fail
      go_ret2
      exact ⟨ret_ii HE.out.2.symm HE.out.1.symm, HB2.out⟩
#print axioms field_Number
end Go.Proofs.YthiebggamfmjgaaDoor.Field
