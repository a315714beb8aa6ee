/- What the laws of layer 5 share: the comparison of lists of spans; the examples. -/
import Derived.Test.YtngjdclcnocmfaaDoorClockI
import Derived.Test.YtngjdclcnocmfaaDoorClockM
import Derived.Deep.QuietTactic
import Derived.BigQuiet
namespace Go.Proofs.YtngjdclcnocmfaaDoor.Clock
open Go.ChangeShapes Go.WideShapes Go.RowKit Go.Lib
set_option linter.unusedVariables false
set_option maxRecDepth 100000

theorem neq_span (x y : Sp) (w : World) : (binOp .neq 36 (.agg #[.int .i64 x.1, .int .i64 x.2]) (.agg #[.int .i64 y.1, .int .i64 y.2])).run Tryd.prog w = .ok (.bool !(decide (x.1 = y.1) && decide (x.2 = y.2))) w := by
  have u3 := Tryd.underlying3
  have a3 := Tryd.isAgg3
  have z3 := Tryd.sizeOf3
  have hS : Tryd.prog.underlying 36 = some (.struct (Tryd.prog.fieldsOf 36)) := by kernel_rfl
  have hp : Tryd.prog.stoodInHeld 36 = false := by kernel_rfl
  rw [run_neq_struct, show (10000 : Nat) = 9999 + 1 from rfl, run_equalIn_agg w 9999 36 _ _ hS hp]
  simp only [Program.fieldsOf, Tryd.underlying36]
  go_simp
  by_cases h1 : x.1 = y.1 <;> by_cases h2 : x.2 = y.2 <;> simp [h1, h2]

set_option maxHeartbeats 800000 in
theorem law_spans (L M : List Sp) (A B : Option Addr) (c d : Nat) (w : World) (ha : Sps w A L) (hb : Sps w B M) (hm : L.length ≤ 9223372036854775807) (hm2 : M.length ≤ 9223372036854775807) :
    Calls Tryd.prog 26 #[.slice A L.length c, .slice B M.length d] w fun e w' => e = .returned (.bool (decide (L = M))) ∧ Below w.heap.size w w' := by
  have HA := Lib.hid ha
  have HB := Lib.hid hb
  clear ha hb
  by_cases hl : L.length = M.length
  · have HL := Lib.hid hl
    have hl' : ((L.length : Int) == (M.length : Int)) = true := by simp [hl]
    have hl2 : ((L.length : Int) != (M.length : Int)) = false := by simp [hl]
    clear hl
    go_enter Tryd.func26, Tryd.ntmps26
    go_wp2_with fail
    go_loopw [5] (fun i wr => ∃ k : Nat, k ≤ L.length ∧ i = .int .i64 k ∧ (∀ j s t, j < k → L[j]? = some s → M[j]? = some t → s = t) ∧ Below w.heap.size w wr) (fun i _ => L.length - (RowKit.intOf i).toNat)
    case atStart => exact ⟨0, Nat.zero_le _, rfl, fun j s t h => absurd h (by omega), Below.refl _ _⟩
    case round =>
      obtain ⟨k, hk, rfl, hv, hbel⟩ := hrel
      have HV := Lib.hid hv
      have HW := Lib.hid hbel
      clear hv hbel
      rcases Nat.lt_or_ge k L.length with hlt | hge
      · have hlt2 : k < M.length := by have := HL.out; omega
        obtain ⟨s, hs⟩ := get_lt hlt
        obtain ⟨t, ht⟩ := get_lt hlt2
        obtain ⟨b1, off1, rfl, hb1, h0, h1⟩ := HA.out.on HW.out k s hs
        obtain ⟨b2, off2, rfl, hb2, h2, h3⟩ := HB.out.on HW.out k t ht
        have HS := Lib.hid hs
        have HT := Lib.hid ht
        have i1 : (k : Int) < (L.length : Int) := by omega
        have i2 : (0 : Int) ≤ (k : Int) := by omega
        have i3 : (k : Int) < (M.length : Int) := by omega
        clear hs ht
        have hq := neq_span s t
        by_cases e : s = t
        · have hq2 : (!(decide (s.1 = t.1) && decide (s.2 = t.2))) = false := by simp [e]
          have E := Lib.hid e
          rw [hq2] at hq
          clear hq2 e
          go_wp2_with fail
          go_quiet (fail)
          go_wp2_with fail
          go_roundw
          case rel =>
            refine ⟨k + 1, by omega, by go_num, ?_, below_drewN HW.out _⟩
            intro j u v hj hu hv
            rcases Nat.lt_or_eq_of_le (Nat.le_of_lt_succ hj) with h | h
            · exact HV.out j u v h hu hv
            · subst h
              have e1 := HS.out
              have e2 := HT.out
              rw [hu] at e1; rw [hv] at e2; cases e1; cases e2; exact E.out
          case measure => simp [RowKit.intOf]; omega
        · have hq2 : (!(decide (s.1 = t.1) && decide (s.2 = t.2))) = true := by
            rw [Bool.not_eq_true', Bool.and_eq_false_iff]
            rcases Decidable.em (s.1 = t.1) with g | g
            · exact Or.inr (decide_eq_false fun h => e (Prod.ext g h))
            · exact Or.inl (decide_eq_false g)
          have E : Hid (decide (L = M) = false) := decide_eq_false fun h => by
            subst h
            have e1 := HS.out
            rw [HT.out] at e1; exact e (Option.some.inj e1).symm
          rw [hq2] at hq
          clear hq2 e
          go_wp2_with fail
          go_quiet (fail)
          go_wp2_with fail
          go_ret
          exact ⟨ret_bool E.out.symm, below_drewN HW.out _⟩
      · obtain rfl : k = L.length := by omega
        have E : Hid (decide (L = M) = true) := decide_eq_true (by
          apply List.ext_getElem HL.out
          intro j h1 h2
          exact HV.out j _ _ h1 (List.getElem?_eq_getElem h1) (List.getElem?_eq_getElem h2))
        go_wp2_with fail
        go_ret
        exact ⟨ret_bool E.out.symm, HW.out⟩
  · have hl' : ((L.length : Int) == (M.length : Int)) = false := beq_false_of_ne (by omega)
    have hl2 : ((L.length : Int) != (M.length : Int)) = true := by simp; omega
    have E : Hid (decide (L = M) = false) := decide_eq_false fun h => hl (by rw [h])
    clear hl
    go_enter Tryd.func26, Tryd.ntmps26
    go_wp2_with fail
    go_ret
    exact ⟨ret_bool E.out.symm, Below.refl _ _⟩

theorem lit_sps (w : World) (L : List Sp) (t : TypeId) : Sps (w.alloc (.cells (cellsS L).toArray t)) (some ⟨w.heap.size, 0, none⟩) L := by
  have hb := heap_alloc_new w (.cells (cellsS L).toArray t)
  intro k s hs
  refine ⟨w.heap.size, 0, rfl, by simp, ?_, ?_⟩
  · rw [cell_of_row _ _ _ _ _ _ hb, Nat.zero_add]; simpa using (cellsS_at hs).1
  · rw [cell_of_row _ _ _ _ _ _ hb, Nat.zero_add]; simpa using (cellsS_at hs).2
theorem lit_its (w : World) (zs : List Int) (t : TypeId) : Its (w.alloc (.cells (zs.map (Value.int .i64)).toArray t)) (some ⟨w.heap.size, 0, none⟩) zs := by
  intro k z hz
  refine ⟨w.heap.size, 0, rfl, by simp, ?_⟩
  rw [Nat.zero_add]; exact ((IntsB.new w zs t).cell hz).1
theorem ex_fmt : (fmtS 100000).toList = [49, 32, 48, 51, 58, 52, 54, 58, 52, 48] := by
  rw [show (100000 : Int) = ((100000 : Nat) : Int) from rfl, fmtS_yes (by decide), ByteArray.toList_eq]
  simp only [fmtL]
  rw [show 100000 / 86400 = 1 from rfl, Lib.decDigits_one (by decide)]
  rfl
theorem ex_format (w : World) (hl : Laid w) : Calls Tryd.prog 14 #[.int .i64 100000] w fun e w' => ∃ F : ByteArray, e = .returned (.tuple #[.string F, .int .i64 0]) ∧ Hid (F.toList = [49, 32, 48, 51, 58, 52, 54, 58, 52, 48]) ∧ Below w.heap.size w w' :=
  (clock_Format 100000 w hl).mono fun e w' ⟨h, hb⟩ => ⟨fmtS 100000, by rw [h]; rfl, ex_fmt, hb⟩
theorem ex_shift (w : World) : Calls Tryd.prog 11 #[.int .i64 100000] w fun e w' => e = .returned (.tuple #[.int .i64 1, .int .i64 0, .int .i64 0]) ∧ w = w' :=
  (clock_Shift 100000 w).mono fun e w' ⟨h, hb⟩ => ⟨by rw [h]; rfl, hb⟩
theorem ex_next (w : World) : Calls Tryd.prog 22 #[.int .i64 1, .int .i64 0] w fun e w' => e = .returned (.tuple #[.int .i64 86400, .int .i64 0]) ∧ w = w' :=
  (clock_Next 1 0 w).mono fun e w' ⟨h, hb⟩ => ⟨by rw [h]; rfl, hb⟩
theorem ex_parts (w : World) : Calls Tryd.prog 24 #[.agg #[.int .i64 28000, .int .i64 30000]] w fun e w' => ∃ V cap, e = .returned (.tuple #[.slice V 2 cap, .int .i64 0]) ∧ Sps w' V [(28000, 28800), (28800, 30000)] ∧ Below w.heap.size w w' := by
  refine (clock_Parts 28000 30000 w).mono ?_
  rintro e w' ⟨v, rfl, hin, hb⟩
  rw [show prtL 28000 30000 = [(28000, 28800), (28800, 30000)] by decide] at hin
  obtain ⟨V, cap, rfl, -, hs, -⟩ := hin.open_
  exact ⟨V, cap, by rw [show prtE 28000 30000 = 0 by decide]; rfl, hs, hb⟩
theorem ex_crew (A : Option Addr) (c : Nat) (w : World) (ha : Its w A [4, 9]) : Calls Tryd.prog 18 #[.slice A 2 c, .int .i64 57600] w fun e w' => e = .returned (.tuple #[.int .i64 4, .int .i64 0]) ∧ Below w.heap.size w w' :=
  (clock_Crew [4, 9] 57600 A c w ha (by decide)).mono fun e w' ⟨h, hb⟩ => ⟨by rw [h]; rfl, hb⟩
set_option maxHeartbeats 3200000 in
theorem awake (w : World) (hl : Laid w) : Calls Tryd.prog 13 #[] w fun e w' => e = .returned (.bool true) ∧ Below w.heap.size w w' := by
  have HL := Lib.hid hl
  clear hl
  go_enter Tryd.func13, Tryd.ntmps13
  go_wp2_with fail
  refine (ex_format w HL.out).mono ?_
  rintro e w1 ⟨F, rfl, hF, hb1⟩
  have B1 := Lib.hid hb1
  clear hb1
  go_wp2_with fail
  refine (ex_shift w1).mono ?_
  rintro e w' ⟨rfl, rfl⟩
  go_wp2_with fail
  refine (ex_next w1).mono ?_
  rintro e w' ⟨rfl, rfl⟩
  go_wp2_with fail
  refine (ex_parts w1).mono ?_
  rintro e w2 ⟨V, cap, rfl, hs2, hb2⟩
  have B2 := Lib.hid (bstep B1.out hb2)
  have S2 := Lib.hid hs2
  clear hs2 hb2
  have S3 : Its (w2.alloc (.cells #[.int .i64 4, .int .i64 9] 3)) (some ⟨w2.heap.size, 0, none⟩) [4, 9] := lit_its w2 [4, 9] 3
  have HS3 := Lib.hid S3
  clear S3
  go_wp2_with fail
  refine (ex_crew _ 2 _ HS3.out).mono ?_
  rintro e w3 ⟨rfl, hb3⟩
  have C3 := Lib.hid (bstep (below_alloc w2 (.cells #[.int .i64 4, .int .i64 9] 3)) hb3)
  have B3 := Lib.hid (bstep B2.out C3.out)
  replace S2 := Lib.hid (S2.out.on C3.out)
  clear hb3
  have hq : (F.toList == [49, 32, 48, 51, 58, 52, 54, 58, 52, 48]) = true := by rw [hF.out]; rfl
  have S4 : Sps (w3.alloc (.cells #[.int .i64 28000, .int .i64 28800, .int .i64 28800, .int .i64 30000] 36)) (some ⟨w3.heap.size, 0, none⟩) [(28000, 28800), (28800, 30000)] := lit_sps w3 [(28000, 28800), (28800, 30000)] 36
  have HS4 := Lib.hid S4
  clear S4
  have C4 := Lib.hid (below_alloc w3 (.cells #[.int .i64 28000, .int .i64 28800, .int .i64 28800, .int .i64 30000] 36))
  have HS2 := Lib.hid (S2.out.on C4.out)
  go_wp2_with fail
  refine (law_spans [(28000, 28800), (28800, 30000)] [(28000, 28800), (28800, 30000)] V _ cap 2 _ HS2.out HS4.out (by decide) (by decide)).mono ?_
  rintro e w4 ⟨rfl, hb4⟩
  have B4 := Lib.hid (bstep B3.out (bstep C4.out hb4))
  clear hb4
  rw [decide_eq_true (rfl : ([(28000, 28800), (28800, 30000)] : List Sp) = [(28000, 28800), (28800, 30000)])]
  go_wp2_with fail
  go_ret
  exact ⟨rfl, B4.out⟩
#print axioms awake
#print axioms law_spans
#print axioms ex_parts
end Go.Proofs.YtngjdclcnocmfaaDoor.Clock
