/- Contracts of nat.split, nat.ofWord, nat.word. -/
import Derived.Test.YtmbpcjnlniidkaaDoorNatA
namespace Go.Proofs.YtmbpcjnlniidkaaDoor
open Go.ChangeShapes Go.WideShapes Go.RowKit
set_option linter.unusedVariables false

theorem info_int : (Tryd.prog.info? 3).map (fun i => (i.zero, i.size, i.bytes)) = some (some (.int .i64 0), 1, 8) := by kernel_rfl

theorem tdiv_tmod_pos {n : Int} (h : ¬ n.tmod 1000000000 < 0) : n.tmod 1000000000 = n % 1000000000 ∧ n.tdiv 1000000000 = n / 1000000000 := by
  have e := Int.tdiv_mul_add_tmod n 1000000000
  have b : n.tmod 1000000000 < 1000000000 := Int.tmod_lt_of_pos _ (by decide)
  omega
theorem tdiv_tmod_neg {n : Int} (h : n.tmod 1000000000 < 0) : n.tmod 1000000000 + 1000000000 = n % 1000000000 ∧ n.tdiv 1000000000 - 1 = n / 1000000000 := by
  have e := Int.tdiv_mul_add_tmod n 1000000000
  have b : -1000000000 < n.tmod 1000000000 := by
    have := Int.lt_tmod_of_pos n (b := 1000000000) (by decide); omega
  omega
theorem ret_two {k l : IntKind} {a b c d : Int} (h : a = c) (h2 : b = d) : Ending.returned (.tuple #[.int k a, .int l b]) = .returned (.tuple #[.int k c, .int l d]) := by rw [h, h2]

theorem nat_split (n : Int) (w : World) (h1 : -9223372036854775808 ≤ n) (h2 : n ≤ 9223372036854775807) :
    Calls Tryd.prog 59 #[.int .i64 n] w fun e w' => e = .returned (.tuple #[.int .i64 (n % 1000000000), .int .i64 (n / 1000000000)]) ∧ w = w' := by
  have b1 : -9223372037 ≤ n.tdiv 1000000000 := by
    have e := Int.tdiv_mul_add_tmod n 1000000000
    have b : n.tmod 1000000000 < 1000000000 := Int.tmod_lt_of_pos _ (by decide)
    omega
  have b2 : n.tdiv 1000000000 ≤ 9223372037 := by
    have e := Int.tdiv_mul_add_tmod n 1000000000
    have b := Int.lt_tmod_of_pos n (b := 1000000000) (by decide)
    omega
  have b3 : n.tmod 1000000000 < 1000000000 := Int.tmod_lt_of_pos _ (by decide)
  have b4 : -1000000000 < n.tmod 1000000000 := by
    have := Int.lt_tmod_of_pos n (b := 1000000000) (by decide); omega
  by_cases h : n.tmod 1000000000 < 0
  · obtain ⟨e1, e2⟩ := tdiv_tmod_neg h
    have E1 := Lib.hid e1
    have E2 := Lib.hid e2
    clear e1 e2
    go_enter Tryd.func59, Tryd.ntmps59
    go_wp2
    go_ret2
    exact ⟨ret_two E1.out E2.out, rfl⟩
  · obtain ⟨e1, e2⟩ := tdiv_tmod_pos h
    have E1 := Lib.hid e1
    have E2 := Lib.hid e2
    have h' : 0 ≤ n.tmod 1000000000 := by omega
    clear e1 e2
    go_enter Tryd.func59, Tryd.ntmps59
    go_wp2
    go_ret2
    exact ⟨ret_two E1.out E2.out, rfl⟩

theorem tdiv_nonneg' {n : Int} (h : 0 ≤ n) : n.tdiv 1000000000 = n / 1000000000 := Int.tdiv_eq_ediv_of_nonneg h
theorem tmod_nonneg' {n : Int} (h : 0 ≤ n) : n.tmod 1000000000 = n % 1000000000 := Int.tmod_eq_emod_of_nonneg h
theorem limbs_round {m : Int} (h : 0 < m) : limbs m.toNat = [m % 1000000000] ++ limbs (m / 1000000000).toNat := by
  rw [limbs_pos (by omega), List.singleton_append]
  have e : m.toNat / 1000000000 = (m / 1000000000).toNat := by omega
  rw [e]; congr 1; omega

set_option maxHeartbeats 800000 in
theorem nat_ofWord (n : Int) (w : World) (h1 : -9223372036854775808 ≤ n) (h2 : n ≤ 9223372036854775807) :
    Calls Tryd.prog 37 #[.int .i64 n] w fun e w' => ∃ v, e = .returned v ∧ Sl w' w.heap.size w'.heap.size v (limbs n.toNat) ∧ Below w.heap.size w w' := by
  obtain ⟨i0, hi, hz0, hz1, hz2⟩ := info_parts info_int
  have hbig : (limbs n.toNat).length ≤ 3 := limbs_len_le.mpr (by omega)
  have HB := Lib.hid hbig
  clear hbig
  go_enter Tryd.func37, Tryd.ntmps37
  go_wp2_with fail
  go_loopw [0, 3] (fun i v wr => ∃ m ds, i = .int .i64 m ∧ m ≤ n ∧ limbs n.toNat = ds ++ limbs m.toNat ∧ wr.ownsRow w.heap.size 3 1 v ds.length (ds.map (Value.int .i64)) ∧ Below w.heap.size w wr) (fun i _ _ => (intOf i).toNat)
  case atStart => exact ⟨n, [], rfl, Int.le_refl _, rfl, World.ownsRow_nil _ _ _ _, Below.refl _ _⟩
  case round =>
    obtain ⟨m, ds, rfl, hm, hds, hown, hbel⟩ := hrel
    have hlen : ds.length ≤ 3 := by have := HB.out; rw [hds] at this; simp at this; omega
    have HD := Lib.hid hds
    clear hds
    by_cases hp : 0 < m
    · have hq := tdiv_nonneg' (n := m) (by omega)
      have hr := tmod_nonneg' (n := m) (by omega)
      have hd1 : m / 1000000000 ≤ 9223372037 := by omega
      have hd2 : 0 ≤ m / 1000000000 := by omega
      go_wp2_with (first
        | (at_builtin; refine wpList_append_own _ rfl _ _ 23 rfl w.heap.size 3 i0 (.int .i64 0) 1 8 Tryd.underlying23 hi hz0 hz1 hz2 rfl (by decide) _ _ _ rfl (hown.alloc _) ⟨wr.heap.size, 0, none⟩ 1 1 [.int .i64 (m % 1000000000)] rfl rfl ?c1 ?c2 ?c3 ?c4 ?c5 ?_)
        | fail)
      case c1 =>
        intro j u hj
        match j, hj with
        | 0, hj => simp at hj; subst hj; simp [Addr.add]
      case c2 => intro u hu; simp at hu; subst hu; rfl
      case c3 => unfold maxLen; omega
      case c4 => omega
      case c5 => have := hbel.size; simp; omega
      · intro v' w1 hown' hgrow _
        have hb1 : Below w.heap.size w w1 := (hbel.alloc hbel.size _).grown hgrow (by have := hbel.size; simp; omega) (own_block_ge hown)
        clear hown hgrow hbel
        go_wp2_with fail
        go_roundw
        case rel =>
          refine ⟨m / 1000000000, ds ++ [m % 1000000000], rfl, by omega, ?_, own_snoc hown', hb1⟩
          rw [HD.out, limbs_round hp, List.append_assoc]
        case measure => simp [intOf]; omega
    · have hds := HD.out
      have e0 : m.toNat = 0 := by omega
      rw [e0, limbs_zero, List.append_nil] at hds
      have HD2 := Lib.hid hds
      clear hds
      go_wp2_with fail
      go_ret
      rw [HD2.out]
      exact ⟨_, rfl, sl_of_owns hown, hbel⟩

/-- What the function 'word' makes of limbs. -/
theorem nval_drop_step {l : List Int} {k : Nat} {z : Int} (h : l[k]? = some z) : nval (l.drop k) = z + 1000000000 * nval (l.drop (k + 1)) := by
  have hk : k < l.length := by
    rcases Nat.lt_or_ge k l.length with h1 | h1
    · exact h1
    · rw [List.getElem?_eq_none h1] at h; cases h
  rw [List.drop_eq_getElem_cons hk, nval]
  rw [List.getElem?_eq_getElem hk] at h
  cases h; rfl
theorem nval_small {l : List Int} (h : lok l = true) (h2 : l.length ≤ 2) : 0 ≤ nval l ∧ nval l < 1000000000000000000 := by
  have a := nval_nonneg h
  have b := nval_lt h
  have c : (1000000000 : Int) ^ l.length ≤ 1000000000 ^ 2 := by
    match l, h2 with
    | [], _ => decide
    | [x], _ => show (1000000000 : Int) ^ 1 ≤ _; decide
    | [x, y], _ => exact Int.le_refl _
  have e : (1000000000 : Int) ^ 2 = 1000000000000000000 := by decide
  omega
theorem nval_drop_small {l : List Int} (h : lok l = true) (h2 : l.length ≤ 2) {k : Nat} (hk : 0 < k) : 0 ≤ nval (l.drop k) ∧ nval (l.drop k) < 1000000000 := by
  have a := nval_nonneg (lok_drop h k)
  have b := nval_lt (lok_drop h k)
  have hl : (l.drop k).length ≤ 1 := by rw [List.length_drop]; omega
  have c : (1000000000 : Int) ^ (l.drop k).length ≤ 1000000000 := by
    match (l.drop k), hl with
    | [], _ => decide
    | [x], _ => show (1000000000 : Int) ^ 1 ≤ _; decide
  omega

set_option maxHeartbeats 400000 in
theorem nat_word (zs : List Int) (A : Option Addr) (c : Nat) (lo hi : Nat) (w : World) (hS : Holds w lo hi A zs) (hk : lok zs = true) (hlen : zs.length ≤ 2) :
    Calls Tryd.prog 38 #[.slice A zs.length c] w fun e w' => e = .returned (.int .i64 (nval zs)) ∧ w = w' := by
  have HS := Lib.hid hS
  have HK := Lib.hid hk
  clear hS hk
  go_enter Tryd.func38, Tryd.ntmps38
  go_wp2_with fail
  go_loop [3, 7] (fun v i => ∃ k : Nat, k ≤ zs.length ∧ i = .int .i64 k ∧ v = .int .i64 (nval (zs.drop (zs.length - k)))) (fun _ i => zs.length - (intOf i).toNat)
  case atStart => exact ⟨0, Nat.zero_le _, rfl, by simp [nval]⟩
  case round =>
    obtain ⟨k, hk, rfl, rfl⟩ := hrel
    rcases Nat.lt_or_ge k zs.length with hlt | hge
    · obtain ⟨z, hz⟩ : ∃ z, zs[zs.length - 1 - k]? = some z := ⟨_, List.getElem?_eq_getElem (by omega)⟩
      obtain ⟨b, off, rfl, _, _, hcell⟩ := HS.out _ z hz
      have hst := nval_drop_step hz
      have hzb := lok_at HK.out hz
      have hsm := nval_drop_small HK.out hlen (k := zs.length - k) (by omega)
      have e1 : zs.length - 1 - k + 1 = zs.length - k := by omega
      rw [e1] at hst
      have e2 : (zs.length : Int) - 1 - k = ((zs.length - 1 - k : Nat) : Int) := by omega
      have HST := Lib.hid hst
      have HZ := Lib.hid hz
      obtain ⟨N, hN⟩ : ∃ N, N = nval (zs.drop (zs.length - k)) := ⟨_, rfl⟩
      rw [← hN] at hsm ⊢
      have HN := Lib.hid hN
      have E1 := Lib.hid e1
      obtain ⟨s1, s2⟩ := hsm
      obtain ⟨s3, s4⟩ := hzb
      have hix : zs.length - 1 - k < zs.length := by omega
      obtain ⟨j, hj⟩ : ∃ j, j = zs.length - 1 - k := ⟨_, rfl⟩
      rw [← hj] at hcell e2 hix
      have HJ := Lib.hid hj
      clear hst hz hN e1 hj
      go_wp2_with fail
      go_round
      case rel =>
        refine ⟨k + 1, by omega, by go_num, ?_⟩
        have h1 := HST.out
        have h2 := HN.out
        have e3 : zs.length - (k + 1) = zs.length - 1 - k := by omega
        rw [e3, h1, ← h2]
        exact congrArg _ (by omega)
      case measure => simp [intOf]; omega
    · obtain rfl : k = zs.length := by omega
      go_wp2_with fail
      go_ret
      exact ⟨ret_int (by simp), rfl⟩
#print axioms nat_split
#print axioms nat_ofWord
#print axioms nat_word
end Go.Proofs.YtmbpcjnlniidkaaDoor
