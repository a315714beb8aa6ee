/- The contract of nat.Parse. -/
import Derived.Test.YtmbpcjnlniidkaaDoorNatK
namespace Go.Proofs.YtmbpcjnlniidkaaDoor
open Go.ChangeShapes Go.WideShapes Go.RowKit
set_option linter.unusedVariables false

/-- What digits stand for. -/
def dval (L : List UInt8) : Nat := L.foldl (fun v b => v * 10 + (b.toNat - 48)) 0
theorem dval_snoc (L : List UInt8) (b : UInt8) : dval (L ++ [b]) = dval L * 10 + (b.toNat - 48) := by simp [dval]
def parN (L : List UInt8) : Nat := if decOk L then (if L.length ≤ 432 then dval L else 0) else 0
def parE (L : List UInt8) : Int := if decOk L then (if L.length ≤ 432 then 0 else 2) else 3

theorem nval_drop_getD (P : List Int) (t : Nat) : nval (P.drop t) = P.getD t 0 + 1000000000 * nval (P.drop (t + 1)) := by
  rcases Nat.lt_or_ge t P.length with h | h
  · have hz : P[t]? = some P[t] := List.getElem?_eq_getElem h
    rw [nval_drop_step hz, List.getD_eq_getElem?_getD, hz]; rfl
  · rw [List.drop_eq_nil_of_le h, List.drop_eq_nil_of_le (by omega), List.getD_eq_getElem?_getD, List.getElem?_eq_none h]; rfl
theorem lok_set {P : List Int} (h : lok P = true) (j : Nat) {v : Int} (h0 : 0 ≤ v) (h1 : v < 1000000000) : lok (P.set j v) = true := by
  simp only [lok, List.all_eq_true] at h ⊢
  intro x hx
  rcases List.mem_or_eq_of_mem_set hx with h2 | h2
  · exact h x h2
  · subst h2; simp [h0, h1]
structure PInv (L : List UInt8) (P : List Int) (k : Nat) : Prop where
  len : P.length = (L.length + 8) / 9
  ok : lok P = true
  low : ∀ j, j < (L.length - k) / 9 → P.getD j 0 = 0
  lt : P.getD ((L.length - k) / 9) 0 < 10 ^ (9 - (L.length - k) % 9)
  val : (dval (L.take k) : Int) = nval (P.drop ((L.length - k) / 9 + 1)) * 10 ^ (9 - (L.length - k) % 9) + P.getD ((L.length - k) / 9) 0
theorem getD_replicate (n j : Nat) : (List.replicate n (0 : Int)).getD j 0 = 0 := by
  rw [List.getD_eq_getElem?_getD, List.getElem?_replicate]; split <;> rfl
theorem pinv_start (L : List UInt8) : PInv L (List.replicate ((L.length + 8) / 9) 0) 0 := by
  refine ⟨by simp, lok_zeros _, fun j _ => getD_replicate _ _, ?_, ?_⟩
  · rw [getD_replicate]; exact Int.pow_pos (by decide)
  · rw [getD_replicate, List.drop_replicate, nval_zeros]; simp [dval]
theorem pinv_end {L : List UInt8} {P : List Int} (h : PInv L P L.length) : nval P = dval L := by
  have h1 := h.val
  rw [Nat.sub_self, List.take_length] at h1
  have h2 := nval_drop_getD P 0
  rw [List.drop_zero] at h2
  have e : ((10 : Int) ^ (9 - 0 % 9)) = 1000000000 := by decide
  rw [e] at h1
  simp only [Nat.zero_div, Nat.zero_add] at h1 h2
  omega
theorem getD_set_same {P : List Int} {j : Nat} (h : j < P.length) (v : Int) : (P.set j v).getD j 0 = v := by
  rw [List.getD_eq_getElem?_getD, List.getElem?_set_self h]; rfl
theorem getD_set_other {P : List Int} {i j : Nat} (h : i ≠ j) (v : Int) : (P.set i v).getD j 0 = P.getD j 0 := by
  rw [List.getD_eq_getElem?_getD, List.getElem?_set_ne h, List.getD_eq_getElem?_getD]
theorem drop_set_above {P : List Int} {i j : Nat} (h : i < j) (v : Int) : (P.set i v).drop j = P.drop j := by
  rw [List.drop_set, if_pos h]
theorem dval_take_succ {L : List UInt8} {k : Nat} {b : UInt8} (hb : L[k]? = some b) (hd : isD b = true) : (dval (L.take (k + 1)) : Int) = dval (L.take k) * 10 + ((b.toNat : Int) - 48) := by
  rw [List.take_add_one, hb]
  have := dval_snoc (L.take k) b
  have hb := isD_iff hd
  simp only [Option.toList_some]
  rw [this]; omega
theorem pinv_step {L : List UInt8} {P : List Int} {k : Nat} {b : UInt8} (h : PInv L P k) (hb : L[k]? = some b) (hd : isD b = true) :
    (L.length - 1 - k) / 9 < P.length ∧ 0 ≤ P.getD ((L.length - 1 - k) / 9) 0 ∧ P.getD ((L.length - 1 - k) / 9) 0 < 100000000 ∧
    PInv L (P.set ((L.length - 1 - k) / 9) (P.getD ((L.length - 1 - k) / 9) 0 * 10 + ((b.toNat : Int) - 48))) (k + 1) := by
  have hk : k < L.length := by
    rcases Nat.lt_or_ge k L.length with h1 | h1
    · exact h1
    · rw [List.getElem?_eq_none h1] at hb; cases hb
  have hbd := isD_iff hd
  have hv := dval_take_succ hb hd
  have hlen := h.len
  have e1 : L.length - (k + 1) = L.length - 1 - k := by omega
  have hj : (L.length - 1 - k) / 9 < P.length := by omega
  obtain ⟨j, hjj⟩ : ∃ j, j = (L.length - 1 - k) / 9 := ⟨_, rfl⟩
  have x0 := (lok_getD h.ok j).1
  by_cases hr : (L.length - k) % 9 = 0
  · have ej : (L.length - k) / 9 = j + 1 := by omega
    have er : (L.length - 1 - k) % 9 = 8 := by omega
    have hx : P.getD j 0 = 0 := h.low j (by omega)
    have h1 := h.val
    rw [hr, ej] at h1
    have e9 : ((10 : Int) ^ (9 - 0)) = 1000000000 := by decide
    have e8 : ((10 : Int) ^ (9 - 8)) = 10 := by decide
    rw [e9] at h1
    have h2 := nval_drop_getD P (j + 1)
    rw [← hjj, hx]
    rw [← hjj] at hj
    refine ⟨hj, by omega, by omega, by rw [List.length_set]; exact hlen, lok_set h.ok _ (by omega) (by omega), ?_, ?_, ?_⟩
    · intro i hi
      rw [e1, ← hjj] at hi
      rw [getD_set_other (by omega)]; exact h.low i (by omega)
    · rw [e1, ← hjj, er, e8, getD_set_same hj]; omega
    · rw [e1, ← hjj, er, e8, getD_set_same hj, hv, drop_set_above (by omega)]; omega
  · have ej : (L.length - k) / 9 = j := by omega
    have er : 9 - (L.length - 1 - k) % 9 = 9 - (L.length - k) % 9 + 1 := by omega
    have h1 := h.val
    have h3 := h.lt
    rw [ej] at h1 h3
    obtain ⟨q, hq⟩ : ∃ q, q = 9 - (L.length - k) % 9 := ⟨_, rfl⟩
    have hq8 : q ≤ 8 := by omega
    rw [← hq] at h1 h3 er
    have hp8 : (10 : Int) ^ q ≤ 100000000 := by
      have : ∀ q : Nat, q ≤ 8 → (10 : Int) ^ q ≤ 100000000 := by decide
      exact this q hq8
    rw [← hjj]
    rw [← hjj] at hj
    refine ⟨hj, x0, by omega, by rw [List.length_set]; exact hlen, lok_set h.ok _ (by omega) (by omega), ?_, ?_, ?_⟩
    · intro i hi
      rw [e1, ← hjj] at hi
      rw [getD_set_other (by omega)]; exact h.low i (by omega)
    · rw [e1, ← hjj, er, getD_set_same hj, Int.pow_succ]; omega
    · rw [e1, ← hjj, er, getD_set_same hj, hv, drop_set_above (by omega), Int.pow_succ, h1, ← Int.mul_assoc]; omega

set_option maxHeartbeats 1600000 in
theorem nat_Parse (s : ByteArray) (w : World) (hm : s.size ≤ 9223372036854775807) :
    Calls Tryd.prog 20 #[.string s] w (Res w (parN s.data.toList) (parE s.data.toList)) := by
  have hlen := str_len s
  have HL := Lib.hid hlen
  cases hd : decOk s.data.toList with
  | false =>
    have HD := Lib.hid hd
    clear hlen hd
    go_enter Tryd.func20, Tryd.ntmps20
    go_wp2_with fail
    refine (nat_isDecimal s w hm).mono ?_
    rintro e w' ⟨rfl, rfl⟩
    rw [HD.out]
    go_wp2_with fail
    go_ret2
    exact Res.none (by rw [parN, HD.out]; rfl) (by rw [parE, HD.out]; rfl) rfl (Below.refl _ _)
  | true =>
    have HD := Lib.hid hd
    by_cases hbig : 432 < s.size
    · have hb2 : (432 : Int) < (s.size : Int) := by omega
      have hb3 : ¬ s.data.toList.length ≤ 432 := by omega
      have HB := Lib.hid hb3
      clear hlen hd hb3
      go_enter Tryd.func20, Tryd.ntmps20
      go_wp2_with fail
      refine (nat_isDecimal s w hm).mono ?_
      rintro e w' ⟨rfl, rfl⟩
      rw [HD.out]
      go_wp2_with fail
      go_ret2
      exact Res.none (by rw [parN, HD.out, if_pos rfl, if_neg HB.out]) (by rw [parE, HD.out, if_pos rfl, if_neg HB.out]) rfl (Below.refl _ _)
    · have hb2 : decide ((432 : Int) < (s.size : Int)) = false := decide_eq_false (by omega)
      have hb3 : s.data.toList.length ≤ 432 := by omega
      have hs : s.size ≤ 432 := by omega
      have HB := Lib.hid hb3
      have hall : s.data.toList.all isD = true := by simp only [decOk, Bool.and_eq_true] at hd; exact hd.1
      have HALL := Lib.hid hall
      clear hlen hd hb3 hbig hall
      obtain ⟨i0, hi0, hz0, hz1, hz2⟩ := info_parts info_int
      obtain ⟨n, hn⟩ : ∃ n, n = (s.size + 8) / 9 := ⟨_, rfl⟩
      have en : ((s.size : Int) + 9 - 1).tdiv 9 = (n : Int) := by rw [Int.tdiv_eq_ediv_of_nonneg (by omega)]; omega
      have hn49 : n ≤ 48 := by omega
      have HN := Lib.hid hn
      clear hn
      go_enter Tryd.func20, Tryd.ntmps20
      go_wp2_with fail
      refine (nat_isDecimal s w hm).mono ?_
      rintro e w' ⟨rfl, rfl⟩
      rw [HD.out]
      go_wp2_with (first
        | (at_make; refine wpList_make_full _ rfl _ _ 23 rfl w.heap.size 3 i0 (.int .i64 0) 1 Tryd.underlying23 hi0 hz0 hz1 .i64 .i64 _ _ n rfl rfl rfl rfl (by rw [hz2]; omega) (by unfold maxLen; omega) (Nat.le_refl _) ?_; intro w1 hown hgrow; refine Hid.out ?_)
        | fail)
      refine Lib.hid ?_
      have hrow0 : Row w1 w.heap.size (List.replicate n 0) := row_of_heap (heap_of_made hown)
      have hbel0 : Below w.heap.size w w1 := (Below.refl _ _).grown hgrow (Nat.le_refl _) (fun k hk => by cases hk)
      have hp0 := pinv_start s.data.toList
      rw [HL.out, ← HN.out] at hp0
      have HR0 := Lib.hid hrow0
      have HB0 := Lib.hid hbel0
      have HP0 := Lib.hid hp0
      clear hrow0 hbel0 hown hgrow hp0 en
      go_wp2_with fail
      go_loopw [21] (fun i wr => ∃ (k : Nat) (P : List Int), k ≤ s.size ∧ i = .int .i64 k ∧ PInv s.data.toList P k ∧ Row wr w.heap.size P ∧ Below w.heap.size w wr) (fun i _ => s.size - (intOf i).toNat)
      case atStart => exact ⟨0, _, Nat.zero_le _, rfl, HP0.out, HR0.out, HB0.out⟩
      case round =>
        obtain ⟨k, P, hk, rfl, hP, hrow, hbel⟩ := hrel
        have HP := Lib.hid hP
        have HR := Lib.hid hrow
        have HBL := Lib.hid hbel
        clear hP hrow hbel
        rcases Nat.lt_or_ge k s.size with hlt | hge
        · have hg := str_get? s hlt
          have hdg : isD s[k] = true := List.all_eq_true.mp HALL.out _ (List.mem_of_getElem? hg)
          have hst := pinv_step HP.out hg hdg
          have hdi := isD_iff hdg
          have hpl := HP.out.len
          rw [HL.out] at hst hpl
          obtain ⟨j, hj⟩ : ∃ j, j = (s.size - 1 - k) / 9 := ⟨_, rfl⟩
          rw [← hj] at hst
          obtain ⟨h1, h2, h3, h4⟩ := hst
          obtain ⟨x, hx⟩ : ∃ x, x = P.getD j 0 := ⟨_, rfl⟩
          rw [← hx] at h2 h3 h4
          have hcell := HR.out.cell (i := j) (z := x) (by rw [hx, List.getD_eq_getElem?_getD, List.getElem?_eq_getElem h1]; rfl)
          have hfr := HR.out.frozen j
          have ej : ((s.size : Int) - 1 - k).tdiv 9 = (j : Int) := by rw [Int.tdiv_eq_ediv_of_nonneg (by omega)]; omega
          have hjn : j < n := by rw [hpl] at h1; have := HN.out; omega
          have hjn2 : (j : Int) < (n : Int) := by omega
          have H4 := Lib.hid h4
          have d1 : (48 : Int) ≤ (s[k].toNat : Int) := by omega
          have d2 : (s[k].toNat : Int) ≤ 57 := by omega
          clear hg hdg hx hpl h4 hj h1 hdi
          have w1' : IntKind.i64.wrap (x * 10) = x * 10 := wrap_id (by omega) (by omega)
          have w2' : IntKind.u8.wrap ((s[k].toNat : Int) - 48) = (s[k].toNat : Int) - 48 := by rw [IntKind.wrap_u8]; omega
          have w3' : IntKind.i64.wrap ((s[k].toNat : Int) - 48) = (s[k].toNat : Int) - 48 := wrap_id (by omega) (by omega)
          have w4' : IntKind.i64.wrap (x * 10 + ((s[k].toNat : Int) - 48)) = x * 10 + ((s[k].toNat : Int) - 48) := wrap_id (by omega) (by omega)
          have hkl : (k : Int) < (s.size : Int) := by omega
          go_wp2_with fail
          go_still_tail 14, (by kernel_rfl)
          change wpList _ _ _ _ _ wr.drew
          have hcell2 : wr.drew.cell? ⟨w.heap.size, j, none⟩ = some (.int .i64 x) := hcell
          have hfr2 : wr.drew.frozen? ⟨w.heap.size, j, none⟩ = false := hfr
          have hR2 : Row (wr.drew.setCell ⟨w.heap.size, j, none⟩ (.int .i64 (x * 10 + ((s[k].toNat : Int) - 48)))) w.heap.size (P.set j (x * 10 + ((s[k].toNat : Int) - 48))) :=
            Row.store (w := wr.drew) (HR.out.keep rfl) j _
          have hb2 : Below w.heap.size w (wr.drew.setCell ⟨w.heap.size, j, none⟩ (.int .i64 (x * 10 + ((s[k].toNat : Int) - 48)))) := (HBL.out.drew).setCell (Nat.le_refl _) _
          have HR2 := Lib.hid hR2
          have HB2 := Lib.hid hb2
          clear hcell hfr hR2 hb2
          go_wp2_with fail
          go_roundw
          case rel => exact ⟨k + 1, _, by omega, by go_num, H4.out, HR2.out, HB2.out⟩
          case measure => simp [intOf]; omega
        · obtain rfl : k = s.size := by omega
          have hpe := HP.out
          rw [← HL.out] at hpe
          have hv := pinv_end hpe
          have hok := hpe.ok
          have hpl : P.length = n := by have := hpe.len; rw [HL.out] at this; have := HN.out; omega
          have htr := nat_trimmed P (some ⟨w.heap.size, 0, none⟩) n w.heap.size wr.heap.size wr (HR.out.holds (fun k z hz => by rw [Nat.zero_add]; exact hz) (Nat.le_refl _) HR.out.lt) (by omega) (by unfold maxLen; omega)
          rw [hpl] at htr
          have hsl : Sl wr w.heap.size wr.heap.size (.slice (some ⟨w.heap.size, 0, none⟩) (trimL P).length n) (limbs (dval s.data.toList)) := by
            have e : limbs (dval s.data.toList) = trimL P := by rw [trimL_limbs hok, hv]; rfl
            rw [e]
            have := trimL_len_le P
            exact ⟨_, n, rfl, by omega, by unfold maxLen; omega, by rw [← trimL_eq_take P]; exact (HR.out.take _).holds (fun k z hz => by rw [Nat.zero_add]; exact hz) (Nat.le_refl _) HR.out.lt⟩
          have HTR := Lib.hid htr
          have HSL := Lib.hid hsl
          clear hpe hv hok hpl htr hsl
          go_wp2_with fail
          refine HTR.out.mono ?_
          rintro e w3 ⟨rfl, rfl⟩
          go_wp2_with fail
          go_ret2
          refine ⟨.slice (some ⟨w.heap.size, 0, none⟩) (trimL P).length n, ?_, ?_, HBL.out⟩
          · rw [parE, HD.out, if_pos rfl, if_pos HB.out]; rfl
          · rw [parN, HD.out, if_pos rfl, if_pos HB.out]; exact HSL.out
#print axioms nat_Parse
end Go.Proofs.YtmbpcjnlniidkaaDoor
