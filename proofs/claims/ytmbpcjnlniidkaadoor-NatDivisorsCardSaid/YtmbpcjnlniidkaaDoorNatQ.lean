/- Appending a slice that is there; contracts of nat.Int, and of Of, Int, fit of the reference. -/
import Derived.Test.YtmbpcjnlniidkaaDoorNatW2
import Derived.Laws.AppendOwnNone
namespace Go.Proofs.YtmbpcjnlniidkaaDoor
open Go.ChangeShapes Go.WideShapes Go.RowKit
set_option linter.unusedVariables false

theorem run_append_empty {P : Program} {w : World} (base : Nat) (t ty e : TypeId) (i : TypeInfo) (size c : Nat) (ht : P.underlying t = some (.slice e)) (hi : P.info? e = some i)
    (v : Value) (n : Nat) (xs : List Value) (hown : w.ownsRow base e size v n xs) :
    (Builtin.append_ #[t, t] ty #[v, .slice none 0 c]).run P w = .ok v w := by
  rcases hown.2 with ⟨rfl, rfl⟩ | ⟨g, cap, cur, rfl, _, _, hnc, _⟩
  · simp [Builtin.append_, run_underlying ht, sizeOf, typeInfo, hi, Builtin.lenOf, Builtin.firstCells]
  · simp [Builtin.append_, run_underlying ht, sizeOf, typeInfo, hi, Builtin.lenOf, Builtin.firstCells, hnc, storeCells]
theorem wpList_append_empty {P : Program} {w : World} {ops : Array Oper} {rest : List Oper} {o : Oper} {a : Act} {Q : Exit → Act → World → Prop} (hgd : o.guard = none) (s x : Operand) (t : TypeId)
    (ho : o.op = .call { callee := .builtin .append, args := #[s, x], argTypes := #[t, t] })
    (base : Nat) (e : TypeId) (i : TypeInfo) (size c : Nat) (ht : P.underlying t = some (.slice e)) (hi : P.info? e = some i)
    (v : Value) (n : Nat) (xs : List Value) (hs : a.eval s = v) (hown : w.ownsRow base e size v n xs) (hx : a.eval x = .slice none 0 c)
    (h : wpList P ops Q rest (a.put o.dst v) w) : wpList P ops Q (o :: rest) a w := by
  refine wpList_plain hgd fun K hK => ?_
  have hrun := run_append_empty (P := P) (w := w) base t o.type e i size c ht hi v n xs hown
  unfold Oper.wp
  simp [execOp, ho, resolve, invoke, builtin, hs, hx, hrun, Result.andThen]
  exact hK _ _ h

/-- 'append(s, x...)', s the call's own, x a slice of integers that is there. -/
theorem append_holds {w : World} {ops : Array Oper} {rest : List Oper} {o : Oper} {a : Act} {Q : Exit → Act → World → Prop} (hgd : o.guard = none) (s x : Operand)
    (ho : o.op = .call { callee := .builtin .append, args := #[s, x], argTypes := #[23, 23] })
    (base : Nat) (v : Value) (ds : List Int) (hs : a.eval s = v) (hown : w.ownsRow base 3 1 v ds.length (ds.map (Value.int .i64)))
    (lo hi : Nat) (A : Option Addr) (c : Nat) (zs : List Int) (m : Nat) (hm : m = zs.length) (hx : a.eval x = .slice A m c) (hz : Holds w lo hi A zs)
    (hlen : ds.length + zs.length ≤ 1000000) (hbase : base ≤ w.heap.size)
    (h : ∀ v' w', w'.ownsRow base 3 1 v' (ds ++ zs).length ((ds ++ zs).map (Value.int .i64)) → w.grownBy w' v.ownBlock → wpList Tryd.prog ops Q rest (a.put o.dst v') w') : wpList Tryd.prog ops Q (o :: rest) a w := by
  subst hm
  obtain ⟨i0, hi0, hz0, hz1, hz2⟩ := info_parts info_int
  cases A with
  | none =>
    have hnil : zs = [] := by
      cases zs with
      | nil => rfl
      | cons z zs => obtain ⟨b, off, hA, _⟩ := hz 0 z rfl; cases hA
    subst hnil
    refine wpList_append_empty hgd s x _ ho base 3 i0 1 c Tryd.underlying23 hi0 v ds.length _ hs hown hx (h v w (by simpa using hown) ⟨rfl, rfl, rfl, Nat.le_refl _, fun _ _ _ => rfl⟩)
  | some ad =>
    refine wpList_append_own w hgd s x _ ho base 3 i0 (.int .i64 0) 1 8 Tryd.underlying23 hi0 hz0 hz1 hz2 rfl (by decide) v ds.length _ hs hown ad zs.length c (zs.map (Value.int .i64)) hx (by simp) ?_ cells_ints (by unfold maxLen; omega) (by omega) hbase ?_
    · intro j u hj
      rw [List.getElem?_map] at hj
      cases hzj : zs[j]? with
      | none => rw [hzj] at hj; cases hj
      | some z =>
        obtain ⟨ad', he, hc⟩ := holds_cells hz (by rw [List.length_map]; exact Nat.lt_of_le_of_lt (Nat.zero_le j) (by rcases Nat.lt_or_ge j zs.length with h1 | h1; exact h1; rw [List.getElem?_eq_none h1] at hzj; cases hzj))
        cases he
        exact hc j u (by rw [List.getElem?_map]; exact hj)
    · intro v' w' hown' hg _
      exact h v' w' (by rw [List.length_append, List.map_append]; exact hown') hg

theorem own_empty (w : World) : (w.alloc (.cells #[] 3)).ownsRow w.heap.size 3 1 (.slice (some ⟨w.heap.size, 0, none⟩) 0 0) ([] : List Int).length (([] : List Int).map (Value.int .i64)) :=
  World.ownsRow_lit (base := w.heap.size) (e := 3) (size := 1) w #[] 0 (Nat.le_refl _) (by unfold maxLen; omega) rfl

def intV (xs : List Int) : Int := if validB xs then (if nval xs ≤ 1125899906842624 then nval xs else 0) else 0
def intE (xs : List Int) : Int := if validB xs then (if nval xs ≤ 1125899906842624 then 0 else 2) else 3
theorem long_big {xs : List Int} (hn : nrm xs = true) (h : 2 < xs.length) : 1000000000000000000 ≤ nval xs := by
  have hl := nrm_limbs hn
  have h0 := nval_nonneg (nrm_lok hn)
  have h1 : ¬ (limbs (nval xs).toNat).length ≤ 2 := by rw [← hl]; omega
  rw [limbs_len_le] at h1
  omega

set_option maxHeartbeats 1600000 in
theorem nat_Int (xs : List Int) (va : Value) (w : World) (ha : In w va xs) :
    Calls Tryd.prog 16 #[va] w fun e w' => e = .returned (.tuple #[.int .i64 (intV xs), .int .i64 (intE xs)]) ∧ w = w' := by
  obtain ⟨A, c, rfl, hc, hm, hA⟩ := ha
  have HA := Lib.hid hA
  have hm1 : xs.length ≤ 9223372036854775807 := Nat.le_trans hc hm
  clear hA hm
  cases hx : validB xs with
  | false =>
    have HV := Lib.hid (show intV xs = 0 by rw [intV, hx]; rfl)
    have HE := Lib.hid (show intE xs = 3 by rw [intE, hx]; rfl)
    go_enter Tryd.func16, Tryd.ntmps16
    go_wp2_with fail
    refine (nat_Valid xs A c _ _ w HA.out hm1).mono ?_
    rintro e w' ⟨rfl, rfl⟩
    go_wp2_with fail
    go_ret2
    exact ⟨ret_two HV.out.symm HE.out.symm, rfl⟩
  | true =>
    have hn := valid_nrm hx
    rcases Nat.lt_or_ge 2 xs.length with hl | hl
    · have hb := long_big hn hl
      have HV := Lib.hid (show intV xs = 0 by rw [intV, hx, if_pos rfl, if_neg (by omega)])
      have HE := Lib.hid (show intE xs = 2 by rw [intE, hx, if_pos rfl, if_neg (by omega)])
      have hl' : (2 : Int) < (xs.length : Int) := by omega
      clear hb hn
      go_enter Tryd.func16, Tryd.ntmps16
      go_wp2_with fail
      refine (nat_Valid xs A c _ _ w HA.out hm1).mono ?_
      rintro e w' ⟨rfl, rfl⟩
      go_wp2_with fail
      go_ret2
      exact ⟨ret_two HV.out.symm HE.out.symm, rfl⟩
    · have hl' : decide ((2 : Int) < (xs.length : Int)) = false := decide_eq_false (by omega)
      have hw := nat_word xs A c _ _ w HA.out (nrm_lok hn) hl
      rcases Int.lt_or_le 1125899906842624 (nval xs) with hb | hb
      · have HV := Lib.hid (show intV xs = 0 by rw [intV, hx, if_pos rfl, if_neg (by omega)])
        have HE := Lib.hid (show intE xs = 2 by rw [intE, hx, if_pos rfl, if_neg (by omega)])
        have HW := Lib.hid hw
        clear hw hn
        go_enter Tryd.func16, Tryd.ntmps16
        go_wp2_with fail
        refine (nat_Valid xs A c _ _ w HA.out hm1).mono ?_
        rintro e w' ⟨rfl, rfl⟩
        go_wp2_with fail
        refine HW.out.mono ?_
        rintro e w' ⟨rfl, rfl⟩
        go_wp2_with fail
        go_ret2
        exact ⟨ret_two HV.out.symm HE.out.symm, rfl⟩
      · have hb' : decide (1125899906842624 < nval xs) = false := decide_eq_false (by omega)
        have HV := Lib.hid (show intV xs = nval xs by rw [intV, hx, if_pos rfl, if_pos hb])
        have HE := Lib.hid (show intE xs = 0 by rw [intE, hx, if_pos rfl, if_pos hb])
        have HW := Lib.hid hw
        clear hw hn hb
        go_enter Tryd.func16, Tryd.ntmps16
        go_wp2_with fail
        refine (nat_Valid xs A c _ _ w HA.out hm1).mono ?_
        rintro e w' ⟨rfl, rfl⟩
        go_wp2_with fail
        refine HW.out.mono ?_
        rintro e w' ⟨rfl, rfl⟩
        go_wp2_with fail
        refine HW.out.mono ?_
        rintro e w' ⟨rfl, rfl⟩
        go_wp2_with fail
        go_ret2
        exact ⟨ret_two HV.out.symm HE.out.symm, rfl⟩
#print axioms nat_Int
#print axioms append_holds
end Go.Proofs.YtmbpcjnlniidkaaDoor
