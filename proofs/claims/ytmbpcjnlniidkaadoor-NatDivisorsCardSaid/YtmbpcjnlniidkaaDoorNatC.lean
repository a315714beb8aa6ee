/- Contracts of nat.trimmed, nat.limited, nat.Of, nat.compare. -/
import Derived.Test.YtmbpcjnlniidkaaDoorNatB
import Derived.Test.YtmbpcjnlniidkaaDoorShelf
import Derived.BigQuiet
import Derived.Deep.RegionWith
import Derived.Deep.QuietTactic
namespace Go.Proofs.YtmbpcjnlniidkaaDoor
open Go.ChangeShapes Go.WideShapes Go.RowKit
set_option linter.unusedVariables false

theorem trimL_prefix (l : List Int) : ∃ m, l = trimL l ++ m := by
  induction l with
  | nil => exact ⟨[], rfl⟩
  | cons a l ih =>
    obtain ⟨m, hm⟩ := ih
    unfold trimL
    split
    · exact ⟨a :: l, rfl⟩
    · exact ⟨m, by rw [List.cons_append, ← hm]⟩
theorem trimL_len_le (l : List Int) : (trimL l).length ≤ l.length := by
  obtain ⟨m, hm⟩ := trimL_prefix l
  have := congrArg List.length hm
  rw [List.length_append] at this; omega
theorem trimL_eq_take (l : List Int) : l.take (trimL l).length = trimL l := by
  obtain ⟨m, hm⟩ := trimL_prefix l
  have e : (trimL l ++ m).take (trimL l).length = trimL l := by simp
  rw [← hm] at e; exact e
theorem trim_step {zs : List Int} {k : Nat} {z : Int} (hz : zs[k]? = some z) : zs.take (k + 1) = zs.take k ++ [z] := by
  rw [List.take_add_one, hz]; rfl

set_option maxHeartbeats 400000 in
theorem nat_trimmed (zs : List Int) (A : Option Addr) (c : Nat) (lo hi : Nat) (w : World) (hS : Holds w lo hi A zs) (hc : zs.length ≤ c) (hm : c ≤ maxLen) :
    Calls Tryd.prog 43 #[.slice A zs.length c] w fun e w' => e = .returned (.slice A (trimL zs).length c) ∧ w = w' := by
  have HS := Lib.hid hS
  have hm' : c ≤ 9223372036854775807 := hm
  clear hS hm
  go_enter Tryd.func43, Tryd.ntmps43
  go_wp2_with fail
  go_loop [0] (fun v => ∃ k : Nat, k ≤ zs.length ∧ v = .slice A k c ∧ trimL (zs.take k) = trimL zs) (fun v => match v with | .slice _ n _ => n | _ => 0)
  case atStart => exact ⟨zs.length, Nat.le_refl _, rfl, by rw [List.take_length]⟩
  case round =>
    obtain ⟨k, hk, rfl, ht⟩ := hrel
    have HT := Lib.hid ht
    clear ht
    rcases Nat.eq_zero_or_pos k with rfl | hp
    · go_wp2_with fail
      go_ret
      have h := HT.out
      rw [← h, List.take_zero]
      exact ⟨rfl, rfl⟩
    · obtain ⟨k, rfl⟩ : ∃ j, k = j + 1 := ⟨k - 1, by omega⟩
      obtain ⟨z, hz⟩ : ∃ z, zs[k]? = some z := ⟨_, List.getElem?_eq_getElem (by omega)⟩
      obtain ⟨b, off, rfl, _, _, hcell⟩ := HS.out _ z hz
      have HZ := Lib.hid hz
      clear hz
      have e2 : ((k + 1 : Nat) : Int) - 1 = k := by omega
      have hkc : k ≤ c := by omega
      by_cases h0 : z = 0
      · subst h0
        go_wp2_with fail
        go_round
        case rel =>
          refine ⟨k, by omega, rfl, ?_⟩
          rw [← HT.out, trim_step HZ.out, trimL_snoc_zero]
        case measure => show k < k + 1; omega
      · have H0 := Lib.hid h0
        go_wp2_with fail
        go_ret
        have h := HT.out
        have e := trim_step HZ.out
        rw [e, trimL_snoc H0.out, ← e] at h
        rw [← h, List.length_take, Nat.min_eq_left hk]
        exact ⟨rfl, rfl⟩

/-- A number that is returned: the slice and the error. -/
def fitV (v : Value) (n : Nat) : Value := if n < 1000000000 ^ 48 then v else .slice none 0 0
def fitE (n : Nat) : Int := if n < 1000000000 ^ 48 then 0 else 2
def fitN (n : Nat) : Nat := if n < 1000000000 ^ 48 then n else 0

set_option maxHeartbeats 400000 in
theorem nat_limited (zs : List Int) (A : Option Addr) (c : Nat) (lo hi : Nat) (w : World) (hS : Holds w lo hi A zs) (hc : zs.length ≤ c) (hm : c ≤ maxLen) (hz : lok zs = true) :
    Calls Tryd.prog 49 #[.slice A zs.length c] w fun e w' => ∃ v, e = .returned (.tuple #[v, .int .i64 (fitE (nval zs).toNat)]) ∧ Sl w lo hi v (limbs (fitN (nval zs).toNat)) ∧ w = w' := by
  have hm' : c ≤ 9223372036854775807 := hm
  have hlen := trimL_len_le zs
  have hlm : trimL zs = limbs (nval zs).toNat := trimL_limbs hz
  have hpre := trimL_eq_take zs
  have HS := Lib.hid hS
  by_cases hfit : (trimL zs).length ≤ 48
  · have hf : (nval zs).toNat < 1000000000 ^ 48 := limbs_len_le.mp (by rw [← hlm]; exact hfit)
    have HF := Lib.hid hf
    have HL := Lib.hid hlm
    have HP := Lib.hid hpre
    have hd : decide ((48 : Int) < ((trimL zs).length : Int)) = false := decide_eq_false (by omega)
    clear hf hlm hpre hm hz hS
    go_enter Tryd.func49, Tryd.ntmps49
    go_wp2_with (go_at_call 43; refine (nat_trimmed zs A c lo hi w HS.out hc hm').mono ?_; rintro e w' ⟨rfl, rfl⟩)
    go_ret2
    have hsl : Sl w lo hi (.slice A (trimL zs).length c) (trimL zs) := ⟨A, c, rfl, by omega, hm', by rw [← HP.out]; exact (HS.out.take _)⟩
    refine ⟨_, ?_, by rw [fitN, if_pos HF.out, ← HL.out]; exact hsl, rfl⟩
    rw [fitE, if_pos HF.out]; rfl
  · have hf : ¬ (nval zs).toNat < 1000000000 ^ 48 := fun h => hfit (by rw [hlm]; exact limbs_len_le.mpr h)
    have HF := Lib.hid hf
    have hd : (48 : Int) < ((trimL zs).length : Int) := by omega
    clear hf hlm hpre hm hz hS
    go_enter Tryd.func49, Tryd.ntmps49
    go_wp2_with (go_at_call 43; refine (nat_trimmed zs A c lo hi w HS.out hc hm').mono ?_; rintro e w' ⟨rfl, rfl⟩)
    go_ret2
    refine ⟨_, ?_, by rw [fitN, if_neg HF.out, limbs_zero]; exact ⟨none, 0, rfl, Nat.le_refl _, by unfold maxLen; omega, fun k z hz => by simp at hz⟩, rfl⟩
    rw [fitE, if_neg HF.out]; rfl

/-- Of. -/
def ofE (n : Int) : Int := if n < 0 then 1 else 0
theorem nat_Of (n : Int) (w : World) (h1 : -9223372036854775808 ≤ n) (h2 : n ≤ 9223372036854775807) :
    Calls Tryd.prog 14 #[.int .i64 n] w fun e w' => ∃ v, e = .returned (.tuple #[v, .int .i64 (ofE n)]) ∧ Sl w' w.heap.size w'.heap.size v (limbs n.toNat) ∧ Below w.heap.size w w' := by
  by_cases hn : n < 0
  · go_enter Tryd.func14, Tryd.ntmps14
    go_wp2
    go_ret2
    have e : n.toNat = 0 := by omega
    refine ⟨_, ?_, by rw [e, limbs_zero]; exact ⟨none, 0, rfl, Nat.le_refl _, by unfold maxLen; omega, fun k z hz => by simp at hz⟩, Below.refl _ _⟩
    rw [ofE, if_pos (by omega)]; rfl
  · go_enter Tryd.func14, Tryd.ntmps14
    go_wp2_with (go_at_call 37; refine (nat_ofWord n w h1 h2).mono ?_; rintro e w' ⟨v, rfl, hsl, hb⟩)
    go_ret2
    refine ⟨_, ?_, hsl, hb⟩
    rw [ofE, if_neg (by omega)]; rfl
#print axioms nat_trimmed
#print axioms nat_limited
#print axioms nat_Of
end Go.Proofs.YtmbpcjnlniidkaaDoor
