/- product, isOnLine of the program; gcd, line of the reference; Same. -/
import Derived.Test.YtkbnhmgladkojaaAlignJ
import Derived.ChangeKeysEq
namespace Go.Proofs.Ytkbnhmgladkojaa.Align
open Go.ChangeShapes Go.WideShapes Go.RowKit Go.Lib Go.Proofs.Ytkbnhmgladkojaa.Rw
set_option linter.unusedVariables false
set_option maxRecDepth 100000

/-! ### Same -/
theorem neq_run (x y : Mk) (w : World) : (binOp .neq 41 (.agg #[.int .i64 x.1, .int .i64 x.2]) (.agg #[.int .i64 y.1, .int .i64 y.2])).run Try.prog w = .ok (.bool !(decide (x = y))) w := by
  have u3 := Try.underlying3
  have a3 := Try.isAgg3
  have z3 := Try.sizeOf3
  have hS : Try.prog.underlying 41 = some (.struct (Try.prog.fieldsOf 41)) := by kernel_rfl
  have hp : Try.prog.stoodInHeld 41 = false := by kernel_rfl
  rw [run_neq_struct, show (10000 : Nat) = 9999 + 1 from rfl, run_equalIn_agg w 9999 41 _ _ hS hp]
  simp only [Program.fieldsOf, Try.underlying41]
  go_simp
  obtain ⟨a, n⟩ := x
  obtain ⟨a', n'⟩ := y
  by_cases h1 : a = a' <;> by_cases h2 : n = n' <;> simp [h1, h2]
set_option maxHeartbeats 800000 in
theorem ref_Same (L M : List Mk) (A B : Option Addr) (c d n n' : Nat) (hn : n = L.length) (hn' : n' = M.length) (w : World) (ha : Mks w A L) (hb : Mks w B M) (hm : n ≤ 9223372036854775807) (hm2 : n' ≤ 9223372036854775807) :
    Calls Try.prog 25 #[.slice A n c, .slice B n' d] w fun e w' => e = .returned (.bool (decide (L = M))) ∧ Below w.heap.size w w' := by
  have HA := Lib.hid ha
  have HB := Lib.hid hb
  have HN := Lib.hid hn
  have HN' := Lib.hid hn'
  clear ha hb
  by_cases hl : n = n'
  · subst hl
    have HL : Hid (L.length = M.length) := hn.symm.trans hn'
    have hl' : ((n : Int) == (n : Int)) = true := by simp
    have hl2 : ((n : Int) != (n : Int)) = false := by simp
    clear hn hn'
    go_enter Try.func25, Try.ntmps25
    go_wp2_with fail
    go_loopw [5] (fun i wr => ∃ k : Nat, k ≤ n ∧ i = .int .i64 k ∧ (∀ (j : Nat) (s t : Mk), j < k → L[j]? = some s → M[j]? = some t → s = t) ∧ Below w.heap.size w wr) (fun i _ => n - (RowKit.intOf i).toNat)
    case atStart => exact ⟨0, Nat.zero_le _, rfl, fun j s t h => absurd h (by omega), Below.refl _ _⟩
    case round =>
      obtain ⟨k, hk, rfl, hv, hbel⟩ := hrel
      have HV := Lib.hid hv
      have HW := Lib.hid hbel
      clear hv hbel
      rcases Nat.lt_or_ge k n with hlt | hge
      · obtain ⟨s, hs⟩ := get_lt (L := L) (k := k) (by have := HN.out; omega)
        obtain ⟨t, ht⟩ := get_lt (L := M) (k := k) (by have := HN'.out; omega)
        obtain ⟨b1, off1, hA0, hb1, h0, h1⟩ := rd_at (HA.out.on HW.out) hs
        obtain ⟨b2, off2, hB0, hb2, h3, h4⟩ := rd_at (HB.out.on HW.out) ht
        subst hA0
        subst hB0
        have HS := Lib.hid hs
        have HT := Lib.hid ht
        have i1 : (k : Int) < (n : Int) := by omega
        have i2 : (0 : Int) ≤ (k : Int) := by omega
        clear hs ht
        have hq := neq_run s t
        by_cases e : s = t
        · have hq2 : (!(decide (s = t))) = false := by rw [decide_eq_true e]; rfl
          have E := Lib.hid e
          rw [hq2] at hq
          clear hq2 e
          go_wp2_with fail
          go_quiet (fail)
          go_wp2_with fail
          go_roundw
          case rel =>
            refine ⟨k + 1, by omega, by go_num, ?_, below_drewN HW.out _⟩
            intro j u v hj hu hv
            rcases Nat.lt_or_eq_of_le (Nat.le_of_lt_succ hj) with h | h
            · exact HV.out j u v h hu hv
            · subst h
              have e1 := HS.out
              have e2 := HT.out
              rw [hu] at e1; rw [hv] at e2; cases e1; cases e2; exact E.out
          case measure => simp [RowKit.intOf]; omega
        · have hq2 : (!(decide (s = t))) = true := by rw [decide_eq_false e]; rfl
          have E : Hid (decide (L = M) = false) := decide_eq_false fun h => by
            subst h
            have e1 := HS.out
            rw [HT.out] at e1; exact e (Option.some.inj e1).symm
          rw [hq2] at hq
          clear hq2 e
          go_wp2_with fail
          go_quiet (fail)
          go_wp2_with fail
          go_ret
          exact ⟨ret_bool E.out.symm, below_drewN HW.out _⟩
      · obtain rfl : k = n := by omega
        have E : Hid (decide (L = M) = true) := decide_eq_true (by
          apply List.ext_getElem HL.out
          intro j h1 h2
          exact HV.out j _ _ (by have := HN.out; omega) (List.getElem?_eq_getElem h1) (List.getElem?_eq_getElem h2))
        go_wp2_with fail
        go_ret
        exact ⟨ret_bool E.out.symm, HW.out⟩
  · have hl' : ((n : Int) == (n' : Int)) = false := beq_false_of_ne (by omega)
    have hl2 : ((n : Int) != (n' : Int)) = true := by simp; omega
    have E : Hid (decide (L = M) = false) := decide_eq_false fun h => hl (by rw [hn, hn', h])
    clear hl hn hn'
    go_enter Try.func25, Try.ntmps25
    go_wp2_with fail
    go_ret
    exact ⟨ret_bool E.out.symm, Below.refl _ _⟩

/-! ### gcd -/
set_option maxHeartbeats 800000 in
theorem ref_gcd (x y : Nat) (w : World) (k0 : Nat) (hx : x ≤ 17179869184) (hy : y ≤ 17179869184) :
    Calls Try.prog 38 #[.int .i64 (x : Int), .int .i64 (y : Int)] (w.drewN k0) fun e w' => e = .returned (.int .i64 (Nat.gcd x y : Nat)) ∧ ∃ n, w' = w.drewN n := by
  obtain ⟨g, hg⟩ : ∃ g, Nat.gcd x y = g := ⟨_, rfl⟩
  rw [hg]
  have HG := Lib.hid hg
  have HX := Lib.hid hx
  have HY := Lib.hid hy
  clear hg hx hy
  go_enter Try.func38, Try.ntmps38
  go_wp2_with fail
  go_loopw [0, 1] (fun a b wr => ∃ p q n : Nat, a = .int .i64 (p : Int) ∧ b = .int .i64 (q : Int) ∧ p ≤ 17179869184 ∧ q ≤ 17179869184 ∧ Nat.gcd p q = g ∧ wr = w.drewN n) (fun _ b _ => (RowKit.intOf b).toNat)
  case atStart => exact ⟨x, y, k0, rfl, rfl, HX.out, HY.out, HG.out, rfl⟩
  case round =>
    obtain ⟨p, q, n, rfl, rfl, hp, hq, hg, rfl⟩ := hrel
    have HGp := Lib.hid hg
    clear hg
    rcases Nat.eq_zero_or_pos q with h0 | h0
    · subst h0
      have HE : Hid (p = g) := by have := HGp.out; rw [Nat.gcd_zero_right] at this; exact this
      go_wp2_with fail
      go_ret
      exact ⟨ret_int (by rw [HE.out]), n, rfl⟩
    · have d0 : decide (0 < (q : Int)) = true := decide_eq_true (by omega)
      have d1 : 0 < q := h0
      obtain ⟨r, hr⟩ : ∃ r, p % q = r := ⟨_, rfl⟩
      have hrl : r < q := by rw [← hr]; exact Nat.mod_lt _ h0
      have HE : Hid (Nat.gcd q r = g) := by
        have := HGp.out
        rw [Nat.gcd_comm, Nat.gcd_rec, Nat.gcd_comm, hr] at this
        exact this
      have m1 : (p : Int) % (q : Int) = (r : Int) := by rw [← hr]; rfl
      have m2 : (p : Int).tmod (q : Int) = (r : Int) := by rw [Int.tmod_eq_emod_of_nonneg (by omega)]; exact m1
      have n1 : ¬ (q : Int) = 0 := by omega
      have n2 : ((q : Int) == 0) = false := beq_false_of_ne n1
      have n3 : ¬ q = 0 := by omega
      have n4 : (q == 0) = false := beq_false_of_ne n3
      have wr' : IntKind.i64.wrap (r : Int) = (r : Int) := wrap_id (by omega)
      have HR := Lib.hid hrl
      have HQ := Lib.hid hq
      clear hr hrl hp hq h0
      go_wp2_with fail
      go_quiet (fail)
      go_wp2_with fail
      go_roundw
      case rel => exact ⟨q, r, n + nq, rfl, rfl, HQ.out, by have := HR.out; have := HQ.out; omega, HE.out, by rw [World.drewN_drewN]⟩
      case measure => have := HR.out; simp [RowKit.intOf]; omega
#print axioms ref_Same
#print axioms ref_gcd
end Go.Proofs.Ytkbnhmgladkojaa.Align
