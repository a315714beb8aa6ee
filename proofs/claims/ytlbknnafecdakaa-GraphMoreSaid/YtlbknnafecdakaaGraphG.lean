/- Same, Ints, Bools of the reference. -/
import Derived.Test.YtlbknnafecdakaaGraphF
namespace Go.Proofs.Ytlbknnafecdakaa.Graph
open Go.ChangeShapes Go.WideShapes Go.RowKit Go.Lib
set_option linter.unusedVariables false
set_option maxRecDepth 100000

theorem neq_arc (x y : Pr) (w : World) : (binOp .neq 42 (.agg #[.int .i64 x.1, .int .i64 x.2]) (.agg #[.int .i64 y.1, .int .i64 y.2])).run Try.prog w = .ok (.bool !(decide (x.1 = y.1) && decide (x.2 = y.2))) w := by
  have u3 := Try.underlying3
  have a3 := Try.isAgg3
  have z3 := Try.sizeOf3
  have hS : Try.prog.underlying 42 = some (.struct (Try.prog.fieldsOf 42)) := by kernel_rfl
  have hp : Try.prog.stoodInHeld 42 = false := by kernel_rfl
  rw [run_neq_struct, show (10000 : Nat) = 9999 + 1 from rfl, run_equalIn_agg w 9999 42 _ _ hS hp]
  simp only [Program.fieldsOf, Try.underlying42]
  go_simp
  by_cases h1 : x.1 = y.1 <;> by_cases h2 : x.2 = y.2 <;> simp [h1, h2]

set_option maxHeartbeats 800000 in
theorem ref_Same (n m : Int) (L M : List Pr) (A B : Option Addr) (c d : Nat) (w : World) (ha : Ars w A L) (hb : Ars w B M) (hm : L.length ≤ 9223372036854775807) (hm2 : M.length ≤ 9223372036854775807) :
    Calls Try.prog 28 #[.agg #[.int .i64 n, .slice A L.length c], .agg #[.int .i64 m, .slice B M.length d]] w fun e w' => e = .returned (.bool (decide (n = m ∧ L = M))) ∧ Below w.heap.size w w' := by
  have HA := Lib.hid ha
  have HB := Lib.hid hb
  clear ha hb
  have HW0 : Hid (Below w.heap.size w ((w.alloc (.cells #[.int .i64 n, .slice A L.length c] 24)).alloc (.cells #[.int .i64 m, .slice B M.length d] 24))) := bstep (below_alloc _ _) (below_alloc _ _)
  by_cases hnm : n = m
  · by_cases hl : L.length = M.length
    · have HL := Lib.hid hl
      have HN := Lib.hid hnm
      have hl' : ((L.length : Int) == (M.length : Int)) = true := by simp [hl]
      have hl2 : ((L.length : Int) != (M.length : Int)) = false := by simp [hl]
      have hn1 : (n == m) = true := by simp [hnm]
      have hn2 : (n != m) = false := by simp [hnm]
      clear hl hnm
      go_enter Try.func28, Try.ntmps28
      go_wp2_with fail
      go_loopw [5] (fun i wr => ∃ k : Nat, k ≤ L.length ∧ i = .int .i64 k ∧ (∀ j s t, j < k → L[j]? = some s → M[j]? = some t → s = t) ∧ Bx wr w.heap.size n A L.length c ∧ Bx wr (w.heap.size + 1) m B M.length d ∧ Below w.heap.size w wr) (fun i _ => L.length - (intOf i).toNat)
      case atStart => exact ⟨0, Nat.zero_le _, rfl, fun j s t h => absurd h (by omega), (Bx.new _ _ _ _ _ _).on (below_alloc _ _), by have := Bx.new (w.alloc (.cells #[.int .i64 n, .slice A L.length c] 24)) m B M.length d 24; simpa using this, HW0.out⟩
      case round =>
        obtain ⟨k, hk, rfl, hv, hx1, hx2, hbel⟩ := hrel
        have HV := Lib.hid hv
        have HW := Lib.hid hbel
        have HX1 := Lib.hid hx1
        have HX2 := Lib.hid hx2
        obtain ⟨_, a0, a1⟩ := hx1
        obtain ⟨_, b0, b1⟩ := hx2
        clear hv hbel
        rcases Nat.lt_or_ge k L.length with hlt | hge
        · have hlt2 : k < M.length := by have := HL.out; omega
          obtain ⟨s, hs⟩ := get_lt hlt
          obtain ⟨t, ht⟩ := get_lt hlt2
          obtain ⟨g1, off1, rfl, hb1, h0, h1⟩ := HA.out.on HW.out k s hs
          obtain ⟨g2, off2, rfl, hb2, h2, h3⟩ := HB.out.on HW.out k t ht
          have HS := Lib.hid hs
          have HT := Lib.hid ht
          have i1 : (k : Int) < (L.length : Int) := by omega
          have i2 : (0 : Int) ≤ (k : Int) := by omega
          have i3 : (k : Int) < (M.length : Int) := by omega
          clear hs ht
          have hq := neq_arc s t
          by_cases e : s = t
          · have hq2 : (!(decide (s.1 = t.1) && decide (s.2 = t.2))) = false := by simp [e]
            have E := Lib.hid e
            rw [hq2] at hq
            clear hq2 e
            go_wp2_with fail
            go_quiet (fail)
            go_wp2_with fail
            go_roundw
            case rel =>
              refine ⟨k + 1, by omega, by go_num, ?_, HX1.out.on (below_drewN (Below.refl _ _) _), HX2.out.on (below_drewN (Below.refl _ _) _), below_drewN HW.out _⟩
              intro j u v hj hu hv
              rcases Nat.lt_or_eq_of_le (Nat.le_of_lt_succ hj) with h | h
              · exact HV.out j u v h hu hv
              · subst h
                have e1 := HS.out
                have e2 := HT.out
                rw [hu] at e1; rw [hv] at e2; cases e1; cases e2; exact E.out
            case measure => simp [intOf]; omega
          · have hq2 : (!(decide (s.1 = t.1) && decide (s.2 = t.2))) = true := by
              rw [Bool.not_eq_true', Bool.and_eq_false_iff]
              rcases Decidable.em (s.1 = t.1) with g | g
              · exact Or.inr (decide_eq_false fun h => e (Prod.ext g h))
              · exact Or.inl (decide_eq_false g)
            have E : Hid (decide (n = m ∧ L = M) = false) := decide_eq_false fun h => by
              obtain ⟨_, rfl⟩ := h
              have e1 := HS.out
              rw [HT.out] at e1; exact e (Option.some.inj e1).symm
            rw [hq2] at hq
            clear hq2 e
            go_wp2_with fail
            go_quiet (fail)
            go_wp2_with fail
            go_ret
            exact ⟨ret_bool E.out.symm, below_drewN HW.out _⟩
        · obtain rfl : k = L.length := by omega
          have E : Hid (decide (n = m ∧ L = M) = true) := decide_eq_true ⟨HN.out, by
            apply List.ext_getElem HL.out
            intro j h1 h2
            exact HV.out j _ _ h1 (List.getElem?_eq_getElem h1) (List.getElem?_eq_getElem h2)⟩
          go_wp2_with fail
          go_ret
          exact ⟨ret_bool E.out.symm, HW.out⟩
    · have hl' : ((L.length : Int) == (M.length : Int)) = false := beq_false_of_ne (by omega)
      have hl2 : ((L.length : Int) != (M.length : Int)) = true := by simp; omega
      have hn1 : (n == m) = true := by simp [hnm]
      have hn2 : (n != m) = false := by simp [hnm]
      have E : Hid (decide (n = m ∧ L = M) = false) := decide_eq_false fun h => hl (by rw [h.2])
      clear hl hnm
      go_enter Try.func28, Try.ntmps28
      go_wp2_with fail
      go_ret
      exact ⟨ret_bool E.out.symm, HW0.out⟩
  · have hn1 : (n == m) = false := beq_false_of_ne hnm
    have hn2 : (n != m) = true := by simp [hnm]
    have E : Hid (decide (n = m ∧ L = M) = false) := decide_eq_false fun h => hnm h.1
    clear hnm
    go_enter Try.func28, Try.ntmps28
    go_wp2_with fail
    go_ret
    exact ⟨ret_bool E.out.symm, HW0.out⟩

set_option maxHeartbeats 800000 in
theorem ref_Ints (L M : List Int) (A B : Option Addr) (c d : Nat) (w : World) (ha : Cl eI w A L) (hb : Cl eI w B M) (hm : L.length ≤ 9223372036854775807) (hm2 : M.length ≤ 9223372036854775807) :
    Calls Try.prog 18 #[.slice A L.length c, .slice B M.length d] w fun e w' => e = .returned (.bool (decide (L = M))) ∧ Below w.heap.size w w' := by
  have HA := Lib.hid ha
  have HB := Lib.hid hb
  clear ha hb
  by_cases hl : L.length = M.length
  · have HL := Lib.hid hl
    have hl' : ((L.length : Int) == (M.length : Int)) = true := by simp [hl]
    have hl2 : ((L.length : Int) != (M.length : Int)) = false := by simp [hl]
    clear hl
    go_enter Try.func18, Try.ntmps18
    go_wp2_with fail
    go_loopw [5] (fun i wr => ∃ k : Nat, k ≤ L.length ∧ i = .int .i64 k ∧ (∀ j s t, j < k → L[j]? = some s → M[j]? = some t → s = t) ∧ Below w.heap.size w wr) (fun i _ => L.length - (intOf i).toNat)
    case atStart => exact ⟨0, Nat.zero_le _, rfl, fun j s t h => absurd h (by omega), Below.refl _ _⟩
    case round =>
      obtain ⟨k, hk, rfl, hv, hbel⟩ := hrel
      have HV := Lib.hid hv
      have HW := Lib.hid hbel
      clear hv hbel
      rcases Nat.lt_or_ge k L.length with hlt | hge
      · have hlt2 : k < M.length := by have := HL.out; omega
        obtain ⟨s, hs⟩ := get_lt hlt
        obtain ⟨t, ht⟩ := get_lt hlt2
        obtain ⟨g1, off1, rfl, hb1, h0⟩ := HA.out.on HW.out k s hs
        obtain ⟨g2, off2, rfl, hb2, h2⟩ := HB.out.on HW.out k t ht
        have HS := Lib.hid hs
        have HT := Lib.hid ht
        have i1 : (k : Int) < (L.length : Int) := by omega
        have i2 : (0 : Int) ≤ (k : Int) := by omega
        have i3 : (k : Int) < (M.length : Int) := by omega
        clear hs ht
        by_cases e : s = t
        · subst e
          have hne : (s != s) = false := by simp
          go_wp2_with fail
          go_quiet (fail)
          go_wp2_with fail
          go_roundw
          case rel =>
            refine ⟨k + 1, by omega, by go_num, ?_, below_drewN HW.out _⟩
            intro j u v hj hu hv
            rcases Nat.lt_or_eq_of_le (Nat.le_of_lt_succ hj) with h | h
            · exact HV.out j u v h hu hv
            · subst h
              have e1 := HS.out
              have e2 := HT.out
              rw [hu] at e1; rw [hv] at e2; cases e1; cases e2; rfl
          case measure => simp [intOf]; omega
        · have E : Hid (decide (L = M) = false) := decide_eq_false fun h => by
            subst h
            have e1 := HS.out
            rw [HT.out] at e1; exact e (Option.some.inj e1).symm
          have hne : (s != t) = true := by simp [e]
          have hne2 : (s == t) = false := by simp [e]
          clear e
          go_wp2_with fail
          go_quiet (fail)
          go_wp2_with fail
          go_ret
          exact ⟨ret_bool E.out.symm, below_drewN HW.out _⟩
      · obtain rfl : k = L.length := by omega
        have E : Hid (decide (L = M) = true) := decide_eq_true (by
          apply List.ext_getElem HL.out
          intro j h1 h2
          exact HV.out j _ _ h1 (List.getElem?_eq_getElem h1) (List.getElem?_eq_getElem h2))
        go_wp2_with fail
        go_ret
        exact ⟨ret_bool E.out.symm, HW.out⟩
  · have hl' : ((L.length : Int) == (M.length : Int)) = false := beq_false_of_ne (by omega)
    have hl2 : ((L.length : Int) != (M.length : Int)) = true := by simp; omega
    have E : Hid (decide (L = M) = false) := decide_eq_false fun h => hl (by rw [h])
    clear hl
    go_enter Try.func18, Try.ntmps18
    go_wp2_with fail
    go_ret
    exact ⟨ret_bool E.out.symm, Below.refl _ _⟩

set_option maxHeartbeats 800000 in
theorem ref_Bools (L M : List Bool) (A B : Option Addr) (c d : Nat) (w : World) (ha : Cl eB w A L) (hb : Cl eB w B M) (hm : L.length ≤ 9223372036854775807) (hm2 : M.length ≤ 9223372036854775807) :
    Calls Try.prog 23 #[.slice A L.length c, .slice B M.length d] w fun e w' => e = .returned (.bool (decide (L = M))) ∧ Below w.heap.size w w' := by
  have HA := Lib.hid ha
  have HB := Lib.hid hb
  clear ha hb
  by_cases hl : L.length = M.length
  · have HL := Lib.hid hl
    have hl' : ((L.length : Int) == (M.length : Int)) = true := by simp [hl]
    have hl2 : ((L.length : Int) != (M.length : Int)) = false := by simp [hl]
    clear hl
    go_enter Try.func23, Try.ntmps23
    go_wp2_with fail
    go_loopw [5] (fun i wr => ∃ k : Nat, k ≤ L.length ∧ i = .int .i64 k ∧ (∀ j s t, j < k → L[j]? = some s → M[j]? = some t → s = t) ∧ Below w.heap.size w wr) (fun i _ => L.length - (intOf i).toNat)
    case atStart => exact ⟨0, Nat.zero_le _, rfl, fun j s t h => absurd h (by omega), Below.refl _ _⟩
    case round =>
      obtain ⟨k, hk, rfl, hv, hbel⟩ := hrel
      have HV := Lib.hid hv
      have HW := Lib.hid hbel
      clear hv hbel
      rcases Nat.lt_or_ge k L.length with hlt | hge
      · have hlt2 : k < M.length := by have := HL.out; omega
        obtain ⟨s, hs⟩ := get_lt hlt
        obtain ⟨t, ht⟩ := get_lt hlt2
        obtain ⟨g1, off1, rfl, hb1, h0⟩ := HA.out.on HW.out k s hs
        obtain ⟨g2, off2, rfl, hb2, h2⟩ := HB.out.on HW.out k t ht
        have HS := Lib.hid hs
        have HT := Lib.hid ht
        have i1 : (k : Int) < (L.length : Int) := by omega
        have i2 : (0 : Int) ≤ (k : Int) := by omega
        have i3 : (k : Int) < (M.length : Int) := by omega
        clear hs ht
        by_cases e : s = t
        · subst e
          have hne : (s != s) = false := by simp
          go_wp2_with fail
          go_quiet (fail)
          go_wp2_with fail
          go_roundw
          case rel =>
            refine ⟨k + 1, by omega, by go_num, ?_, below_drewN HW.out _⟩
            intro j u v hj hu hv
            rcases Nat.lt_or_eq_of_le (Nat.le_of_lt_succ hj) with h | h
            · exact HV.out j u v h hu hv
            · subst h
              have e1 := HS.out
              have e2 := HT.out
              rw [hu] at e1; rw [hv] at e2; cases e1; cases e2; rfl
          case measure => simp [intOf]; omega
        · have E : Hid (decide (L = M) = false) := decide_eq_false fun h => by
            subst h
            have e1 := HS.out
            rw [HT.out] at e1; exact e (Option.some.inj e1).symm
          have hne : (s != t) = true := by simp [e]
          have hne2 : (s == t) = false := by simp [e]
          clear e
          go_wp2_with fail
          go_quiet (fail)
          go_wp2_with fail
          go_ret
          exact ⟨ret_bool E.out.symm, below_drewN HW.out _⟩
      · obtain rfl : k = L.length := by omega
        have E : Hid (decide (L = M) = true) := decide_eq_true (by
          apply List.ext_getElem HL.out
          intro j h1 h2
          exact HV.out j _ _ h1 (List.getElem?_eq_getElem h1) (List.getElem?_eq_getElem h2))
        go_wp2_with fail
        go_ret
        exact ⟨ret_bool E.out.symm, HW.out⟩
  · have hl' : ((L.length : Int) == (M.length : Int)) = false := beq_false_of_ne (by omega)
    have hl2 : ((L.length : Int) != (M.length : Int)) = true := by simp; omega
    have E : Hid (decide (L = M) = false) := decide_eq_false fun h => hl (by rw [h])
    clear hl
    go_enter Try.func23, Try.ntmps23
    go_wp2_with fail
    go_ret
    exact ⟨ret_bool E.out.symm, Below.refl _ _⟩
#print axioms ref_Same
#print axioms ref_Ints
#print axioms ref_Bools
end Go.Proofs.Ytlbknnafecdakaa.Graph
