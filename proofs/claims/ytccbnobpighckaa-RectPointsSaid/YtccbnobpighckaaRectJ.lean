/- Disjoint of the reference. -/
import Derived.Test.YtccbnobpighckaaRectI
namespace Go.Proofs.Ytccbnobpighckaa.Rect
open Go.ChangeShapes Go.WideShapes Go.RowKit Go.Lib Go.Proofs.Ytccbnobpighckaa.Rw
set_option linter.unusedVariables false
set_option maxRecDepth 100000

set_option maxHeartbeats 3200000 in
theorem rr_Disjoint (L : List Rc) (A : Option Addr) (c n : Nat) (hn : n = L.length) (w : World) (ha : Rcs w A L) (hm : n ≤ 9223372036854775807) :
    Calls Try.prog 33 #[.slice A n c] w fun e w' => e = .returned (.bool (dis L)) ∧ Below w.heap.size w w' := by
  have HA := Lib.hid ha
  have HN := Lib.hid hn
  clear ha hn
  go_enter Try.func33, Try.ntmps33
  go_wp2_with fail
  go_loopw [3] (fun i wr => ∃ k : Nat, k ≤ n ∧ i = .int .i64 k ∧ (∀ (i' k' : Nat) (r s : Rc), k' < i' → i' < k → L[i']? = some r → L[k']? = some s → comB r s = false) ∧ Below w.heap.size w wr) (fun i _ => n - (RowKit.intOf i).toNat)
  case atStart => exact ⟨0, Nat.zero_le _, rfl, fun i' k' r s _ h => absurd h (by omega), Below.refl _ _⟩
  case round =>
    obtain ⟨i, hi, rfl, hv, hbel⟩ := hrel
    have HV := Lib.hid hv
    have HB := Lib.hid hbel
    clear hv hbel
    rcases Nat.lt_or_ge i n with hlt | hge
    · obtain ⟨s, hs⟩ := get_lt (L := L) (k := i) (by have := HN.out; omega)
      have HSs := Lib.hid hs
      have i1 : (i : Int) < (n : Int) := by omega
      have i2 : (0 : Int) ≤ (i : Int) := by omega
      clear hs
      go_wp2_with fail
      obtain ⟨wp, rfl⟩ : ∃ W, W = wr := ⟨wr, rfl⟩
      go_loopw [4] (fun k wr' => ∃ m : Nat, m ≤ i ∧ k = .int .i64 m ∧ (∀ (k' : Nat) (t : Rc), k' < m → L[k']? = some t → comB s t = false) ∧ Below w.heap.size w wr') (fun k _ => i - (RowKit.intOf k).toNat)
      case atStart => exact ⟨0, Nat.zero_le _, rfl, fun k' t h => absurd h (by omega), HB.out⟩
      case round =>
        obtain ⟨m, hm', rfl, hv2, hbel2⟩ := hrel
        have HV2 := Lib.hid hv2
        have HB2 := Lib.hid hbel2
        clear hv2 hbel2
        rcases Nat.lt_or_ge m i with hlt2 | hge2
        · obtain ⟨t, ht⟩ := get_lt (L := L) (k := m) (by have := HN.out; omega)
          obtain ⟨b, off, hA0, hb, e0, e1, e2, e3⟩ := rd_at (HA.out.on HB2.out) HSs.out
          subst hA0
          obtain ⟨b', off', hA0, hb', f0, f1, f2, f3⟩ := rd_at (HA.out.on HB2.out) ht
          cases hA0
          have HTt := Lib.hid ht
          have j1 : (m : Int) < (i : Int) := by omega
          have j2 : (0 : Int) ≤ (m : Int) := by omega
          have j3 : (m : Int) < (n : Int) := by omega
          have HCm := Lib.hid fun W => rr_Common s t W
          unfold ComP at HCm
          obtain ⟨D, hD⟩ : ∃ D, comB s t = D := ⟨_, rfl⟩
          obtain ⟨V, hV⟩ : ∃ V, comV s t = V := ⟨_, rfl⟩
          rw [hV, hD] at HCm
          have HD := Lib.hid hD
          clear ht hD hV
          obtain ⟨wq, rfl⟩ : ∃ W, W = wr := ⟨wr, rfl⟩
          go_upto_region 7 with fail
          go_cut [5, 6] from 18 to 29 (fun x y wz => y = .bool D ∧ Below wq.heap.size wq wz)
          case first =>
            go_region_with ((go_at_call 14; (refine (HCm.out _).mono ?_); rintro e w4 ⟨rfl, hb4⟩; (first | (have hz4 := Lib.hid (after_zero hb4); obtain ⟨z0, z1, z2, z3⟩ := cel4 hz4.out; obtain ⟨v0, v1, v2, v3⟩ := warm4 hz4.out) | skip)))
            all_goals
              have hbw := cl_below (w := wq) (by first | exact Or.inl hb4 | exact Or.inr hb4)
              go_wp2_with fail
              go_meet
              case rel => first
                | exact ⟨rfl, bstep hbw (below_alloc _ _)⟩
                | exact ⟨rfl, below_put4 hbw (Nat.le_refl _) _ _ _ _⟩
          case rest =>
            obtain ⟨rfl, hbc⟩ := hcut
            have HBc := Lib.hid (HB2.out.trans (hbc.mono HB2.out.size))
            clear hbc e0 e1 e2 e3 f0 f1 f2 f3
            obtain ⟨wy, rfl⟩ : ∃ W, W = wc := ⟨wc, rfl⟩
            cases D with
            | false =>
              go_wp2_with fail
              go_roundw
              case rel =>
                refine ⟨m + 1, by omega, by go_num, fun k' u hk hu => ?_, HBc.out⟩
                rcases Nat.lt_or_eq_of_le (Nat.le_of_lt_succ hk) with h | h
                · exact HV2.out k' u h hu
                · subst h
                  have e := HTt.out
                  rw [hu] at e; cases e; exact HD.out
              case measure => simp [RowKit.intOf]; omega
            | true =>
              have HE := Lib.hid (dis_not (show m < i by omega) HSs.out HTt.out HD.out)
              go_wp2_with fail
              go_ret
              exact ⟨ret_bool HE.out.symm, HBc.out⟩
        · obtain rfl : m = i := by omega
          have j1 : decide ((m : Int) < (m : Int)) = false := decide_eq_false (by omega)
          go_wp2_with fail
          go_roundw
          case rel =>
            refine ⟨m + 1, by omega, by go_num, fun i' k' r u hk hi' hr hu => ?_, HB2.out⟩
            rcases Nat.lt_or_eq_of_le (Nat.le_of_lt_succ hi') with h | h
            · exact HV.out i' k' r u hk h hr hu
            · subst h
              have e := HSs.out
              rw [hr] at e; cases e
              exact HV2.out k' u hk hu
          case measure => simp [RowKit.intOf]; omega
    · obtain rfl : i = n := by omega
      have HE : Hid (dis L = true) := dis_iff.mpr fun i' k' r s hk hr hs => HV.out i' k' r s hk (by have := glt hr; have := HN.out; omega) hr hs
      have j1 : decide ((i : Int) < (i : Int)) = false := decide_eq_false (by omega)
      go_wp2_with fail
      go_ret
      exact ⟨ret_bool HE.out.symm, HB.out⟩
#print axioms rr_Disjoint
end Go.Proofs.Ytccbnobpighckaa.Rect
