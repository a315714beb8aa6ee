/- Contracts of nat.isDecimal and nat.Parse. -/
import Derived.Test.YtmbpcjnlniidkaaDoorNatJ
namespace Go.Proofs.YtmbpcjnlniidkaaDoor
open Go.ChangeShapes Go.WideShapes Go.RowKit
set_option linter.unusedVariables false

def isD (b : UInt8) : Bool := decide (48 ≤ b.toNat) && decide (b.toNat ≤ 57)
/-- Digits, not none, without leading zeros. -/
def decOk (L : List UInt8) : Bool := L.all isD && (decide (L = [48]) || (!L.isEmpty && ((L.headD 0) != 48)))
theorem str_get? (s : ByteArray) {k : Nat} (h : k < s.size) : s.data.toList[k]? = some s[k] := by
  rw [Array.getElem?_toList]
  exact Array.getElem?_eq_getElem h
theorem str_len (s : ByteArray) : s.data.toList.length = s.size := by rw [Array.length_toList]; rfl
theorem all_snoc {L : List UInt8} {k : Nat} {b : UInt8} (h : (L.take k).all isD = true) (hb : L[k]? = some b) (h1 : isD b = true) : (L.take (k + 1)).all isD = true := by
  rw [List.take_add_one, hb, List.all_append, h]; simp [h1]
theorem decOk_bad {L : List UInt8} {k : Nat} {b : UInt8} (hb : L[k]? = some b) (h1 : isD b = false) : decOk L = false := by
  have : L.all isD = false := by
    rw [List.all_eq_false]; exact ⟨b, List.mem_of_getElem? hb, by simp [h1]⟩
  simp [decOk, this]
theorem isD_no {b : UInt8} (h : b.toNat < 48 ∨ 57 < b.toNat) : isD b = false := by
  unfold isD
  rcases h with h | h
  · rw [decide_eq_false (by omega)]; rfl
  · rw [decide_eq_false (p := b.toNat ≤ 57) (by omega), Bool.and_false]
theorem isD_yes {b : UInt8} (h1 : 48 ≤ b.toNat) (h2 : b.toNat ≤ 57) : isD b = true := by simp [isD, h1, h2]
theorem isD_iff {b : UInt8} (h : isD b = true) : 48 ≤ b.toNat ∧ b.toNat ≤ 57 := by simpa [isD] using h

theorem fin_dec {s : ByteArray} {w : World} {b : Bool} (h : b = decOk s.data.toList) : Ending.returned (.bool b) = Ending.returned (.bool (decOk s.data.toList)) ∧ w = w := by subst h; exact ⟨rfl, rfl⟩

set_option maxHeartbeats 800000 in
theorem nat_isDecimal (s : ByteArray) (w : World) (hm : s.size ≤ 9223372036854775807) :
    Calls Tryd.prog 42 #[.string s] w fun e w' => e = .returned (.bool (decOk s.data.toList)) ∧ w = w' := by
  have hlen := str_len s
  have HL := Lib.hid hlen
  clear hlen
  go_enter Tryd.func42, Tryd.ntmps42
  go_wp2_with fail
  go_loop [6] (fun i => ∃ k : Nat, k ≤ s.size ∧ i = .int .i64 k ∧ (s.data.toList.take k).all isD = true) (fun i => s.size - (intOf i).toNat)
  case atStart => exact ⟨0, Nat.zero_le _, rfl, rfl⟩
  case round =>
    obtain ⟨k, hk, rfl, ha⟩ := hrel
    have HA := Lib.hid ha
    clear ha
    rcases Nat.lt_or_ge k s.size with hlt | hge
    · have HG := Lib.hid (str_get? s hlt)
      rcases Nat.lt_or_ge s[k].toNat 48 with h1 | h1
      · have hi : ((s[k].toNat : Nat) : Int) < 48 := by omega
        have HB := Lib.hid (decOk_bad HG.out (isD_no (Or.inl h1)))
        go_wp2_with fail
        go_ret
        exact fin_dec (b := false) HB.out.symm
      · have hi : decide (((s[k].toNat : Nat) : Int) < 48) = false := decide_eq_false (by omega)
        rcases Nat.lt_or_ge 57 s[k].toNat with h2 | h2
        · have hi2 : (57 : Int) < ((s[k].toNat : Nat) : Int) := by omega
          have HB := Lib.hid (decOk_bad HG.out (isD_no (Or.inr h2)))
          go_wp2_with fail
          go_ret
          exact fin_dec (b := false) HB.out.symm
        · have hi2 : decide ((57 : Int) < ((s[k].toNat : Nat) : Int)) = false := decide_eq_false (by omega)
          have HB := Lib.hid (all_snoc HA.out HG.out (isD_yes h1 h2))
          go_wp2_with fail
          go_round
          case rel => exact ⟨k + 1, by omega, by go_num, HB.out⟩
          case measure => simp [intOf]; omega
    · obtain rfl : k = s.size := by omega
      have hall : s.data.toList.all isD = true := by have := HA.out; rwa [← HL.out, List.take_length] at this
      have HALL := Lib.hid hall
      clear hall
      have et : s.toList = s.data.toList := ByteArray.toList_eq s
      rcases Nat.eq_zero_or_pos s.size with h0 | hp
      · have hn : s.data.toList = [] := List.eq_nil_of_length_eq_zero (by have := HL.out; omega)
        have hq1 : (s.toList == [48]) = false := by rw [et, hn]; rfl
        have hq2 : s.toList.isEmpty = true := by rw [et, hn]; rfl
        have HN := Lib.hid hn
        clear et hn
        go_wp2_with fail
        go_ret
        exact fin_dec (b := false) (by rw [HN.out]; rfl)
      · have hg := str_get? s hp
        have hh : s.data.toList.headD 0 = s[0] := by rw [List.headD_eq_head?_getD, List.head?_eq_getElem?, hg]; rfl
        have hne : s.data.toList.isEmpty = false := by
          cases hc : s.data.toList with
          | nil => rw [hc] at hg; simp at hg
          | cons a l => rfl
        have hq2 : s.toList.isEmpty = false := by rw [et]; exact hne
        have HH := Lib.hid hh
        have HNE := Lib.hid hne
        by_cases h48 : s.data.toList = [48]
        · have hq1 : (s.toList == [48]) = true := by rw [et, h48]; rfl
          have H48 := Lib.hid h48
          clear et h48 hh hne hg
          go_wp2_with fail
          go_ret
          exact fin_dec (b := true) (by rw [H48.out]; rfl)
        · have hq1 : (s.toList == [48]) = false := by rw [et]; simpa using h48
          have H48 := Lib.hid h48
          clear et h48 hh hne hg
          by_cases hz : s[0] = 48
          · have hq3 : (((s[0].toNat : Nat) : Int) != 48) = false := by rw [hz]; rfl
            have HZ := Lib.hid hz
            clear hz
            go_wp2_with fail
            go_ret
            refine fin_dec (b := false) ?_
            have e : (s[0] != (48 : UInt8)) = false := by rw [HZ.out]; rfl
            rw [decOk, HALL.out, HNE.out, decide_eq_false H48.out, HH.out, e]; rfl
          · have hq3 : (((s[0].toNat : Nat) : Int) != 48) = true := by
              simp only [bne_iff_ne]
              intro h; apply hz; apply UInt8.toNat_inj.mp
              show s[0].toNat = 48; omega
            have HZ := Lib.hid hz
            clear hz
            go_wp2_with fail
            go_ret
            refine fin_dec (b := true) ?_
            have e : (s[0] != (48 : UInt8)) = true := by simpa using HZ.out
            rw [decOk, HALL.out, HNE.out, decide_eq_false H48.out, HH.out, e]; rfl
#print axioms nat_isDecimal
end Go.Proofs.YtmbpcjnlniidkaaDoor
