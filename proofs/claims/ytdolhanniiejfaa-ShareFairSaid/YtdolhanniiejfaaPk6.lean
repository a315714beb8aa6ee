/- Several texts in one: NatQ, NatR, NatS, NatT, NatU, NatV, NatV2, NatV3, NatV4, NatV5, NatW5, NatX, NatX2, NatX3, NatZ1, NatZ2, NatZ3, NatZ4, NatZ6, NatZ7, NatY. -/
import Derived.Test.YtdolhanniiejfaaPk5
import Derived.Laws.AppendOwnNone
/- Appending a slice that is there; contracts of nat.Int, and of Of, Int, fit of the reference. -/
namespace Go.Proofs.Ytdolhanniiejfaa
open Go.ChangeShapes Go.WideShapes Go.RowKit
set_option linter.unusedVariables false
set_option maxRecDepth 100000

theorem run_append_empty {P : Program} {w : World} (base : Nat) (t ty e : TypeId) (i : TypeInfo) (size c : Nat) (ht : P.underlying t = some (.slice e)) (hi : P.info? e = some i)
    (v : Value) (n : Nat) (xs : List Value) (hown : w.ownsRow base e size v n xs) :
    (Builtin.append_ #[t, t] ty #[v, .slice none 0 c]).run P w = .ok v w := by
  rcases hown.2 with ⟨rfl, rfl⟩ | ⟨g, cap, cur, rfl, _, _, hnc, _⟩
  · simp [Builtin.append_, run_underlying ht, sizeOf, typeInfo, hi, Builtin.lenOf, Builtin.firstCells]
  · simp [Builtin.append_, run_underlying ht, sizeOf, typeInfo, hi, Builtin.lenOf, Builtin.firstCells, hnc, storeCells]
theorem wpList_append_empty {P : Program} {w : World} {ops : Array Oper} {rest : List Oper} {o : Oper} {a : Act} {Q : Exit → Act → World → Prop} (hgd : o.guard = none) (s x : Operand) (t : TypeId)
    (ho : o.op = .call { callee := .builtin .append, args := #[s, x], argTypes := #[t, t] })
    (base : Nat) (e : TypeId) (i : TypeInfo) (size c : Nat) (ht : P.underlying t = some (.slice e)) (hi : P.info? e = some i)
    (v : Value) (n : Nat) (xs : List Value) (hs : a.eval s = v) (hown : w.ownsRow base e size v n xs) (hx : a.eval x = .slice none 0 c)
    (h : wpList P ops Q rest (a.put o.dst v) w) : wpList P ops Q (o :: rest) a w := by
  refine wpList_plain hgd fun K hK => ?_
  have hrun := run_append_empty (P := P) (w := w) base t o.type e i size c ht hi v n xs hown
  unfold Oper.wp
  simp [execOp, ho, resolve, invoke, builtin, hs, hx, hrun, Result.andThen]
  exact hK _ _ h

/-- 'append(s, x...)', s the call's own, x a slice of integers that is there. -/
theorem append_holds {w : World} {ops : Array Oper} {rest : List Oper} {o : Oper} {a : Act} {Q : Exit → Act → World → Prop} (hgd : o.guard = none) (s x : Operand)
    (ho : o.op = .call { callee := .builtin .append, args := #[s, x], argTypes := #[33, 33] })
    (base : Nat) (v : Value) (ds : List Int) (hs : a.eval s = v) (hown : w.ownsRow base 3 1 v ds.length (ds.map (Value.int .i64)))
    (lo hi : Nat) (A : Option Addr) (c : Nat) (zs : List Int) (m : Nat) (hm : m = zs.length) (hx : a.eval x = .slice A m c) (hz : Holds w lo hi A zs)
    (hlen : ds.length + zs.length ≤ 1000000) (hbase : base ≤ w.heap.size)
    (h : ∀ v' w', w'.ownsRow base 3 1 v' (ds ++ zs).length ((ds ++ zs).map (Value.int .i64)) → w.grownBy w' v.ownBlock → wpList Try.prog ops Q rest (a.put o.dst v') w') : wpList Try.prog ops Q (o :: rest) a w := by
  subst hm
  obtain ⟨i0, hi0, hz0, hz1, hz2⟩ := info_parts info_int
  cases A with
  | none =>
    have hnil : zs = [] := by
      cases zs with
      | nil => rfl
      | cons z zs => obtain ⟨b, off, hA, _⟩ := hz 0 z rfl; cases hA
    subst hnil
    refine wpList_append_empty hgd s x _ ho base 3 i0 1 c Try.underlying33 hi0 v ds.length _ hs hown hx (h v w (by simpa using hown) ⟨rfl, rfl, rfl, Nat.le_refl _, fun _ _ _ => rfl⟩)
  | some ad =>
    refine wpList_append_own w hgd s x _ ho base 3 i0 (.int .i64 0) 1 8 Try.underlying33 hi0 hz0 hz1 hz2 rfl (by decide) v ds.length _ hs hown ad zs.length c (zs.map (Value.int .i64)) hx (by simp) ?_ cells_ints (by unfold maxLen; omega) (by omega) hbase ?_
    · intro j u hj
      rw [List.getElem?_map] at hj
      cases hzj : zs[j]? with
      | none => rw [hzj] at hj; cases hj
      | some z =>
        obtain ⟨ad', he, hc⟩ := holds_cells hz (by rw [List.length_map]; exact Nat.lt_of_le_of_lt (Nat.zero_le j) (by rcases Nat.lt_or_ge j zs.length with h1 | h1; exact h1; rw [List.getElem?_eq_none h1] at hzj; cases hzj))
        cases he
        exact hc j u (by rw [List.getElem?_map]; exact hj)
    · intro v' w' hown' hg _
      exact h v' w' (by rw [List.length_append, List.map_append]; exact hown') hg

theorem own_empty (w : World) : (w.alloc (.cells #[] 3)).ownsRow w.heap.size 3 1 (.slice (some ⟨w.heap.size, 0, none⟩) 0 0) ([] : List Int).length (([] : List Int).map (Value.int .i64)) :=
  World.ownsRow_lit (base := w.heap.size) (e := 3) (size := 1) w #[] 0 (Nat.le_refl _) (by unfold maxLen; omega) rfl

def intV (xs : List Int) : Int := if validB xs then (if nval xs ≤ 1125899906842624 then nval xs else 0) else 0
def intE (xs : List Int) : Int := if validB xs then (if nval xs ≤ 1125899906842624 then 0 else 2) else 3
theorem long_big {xs : List Int} (hn : nrm xs = true) (h : 2 < xs.length) : 1000000000000000000 ≤ nval xs := by
  have hl := nrm_limbs hn
  have h0 := nval_nonneg (nrm_lok hn)
  have h1 : ¬ (limbs (nval xs).toNat).length ≤ 2 := by rw [← hl]; omega
  rw [limbs_len_le] at h1
  omega

set_option maxHeartbeats 1600000 in
theorem nat_Int (xs : List Int) (va : Value) (w : World) (ha : In w va xs) :
    Calls Try.prog 50 #[va] w fun e w' => e = .returned (.tuple #[.int .i64 (intV xs), .int .i64 (intE xs)]) ∧ w = w' := by
  obtain ⟨A, c, rfl, hc, hm, hA⟩ := ha
  have HA := Lib.hid hA
  have hm1 : xs.length ≤ 9223372036854775807 := Nat.le_trans hc hm
  clear hA hm
  cases hx : validB xs with
  | false =>
    have HV := Lib.hid (show intV xs = 0 by rw [intV, hx]; rfl)
    have HE := Lib.hid (show intE xs = 3 by rw [intE, hx]; rfl)
    go_enter Try.func50, Try.ntmps50
    go_wp2_with fail
    refine (nat_Valid xs A c _ _ w HA.out hm1).mono ?_
    rintro e w' ⟨rfl, rfl⟩
    go_wp2_with fail
    go_ret2
    exact ⟨ret_two HV.out.symm HE.out.symm, rfl⟩
  | true =>
    have hn := valid_nrm hx
    rcases Nat.lt_or_ge 2 xs.length with hl | hl
    · have hb := long_big hn hl
      have HV := Lib.hid (show intV xs = 0 by rw [intV, hx, if_pos rfl, if_neg (by omega)])
      have HE := Lib.hid (show intE xs = 2 by rw [intE, hx, if_pos rfl, if_neg (by omega)])
      have hl' : (2 : Int) < (xs.length : Int) := by omega
      clear hb hn
      go_enter Try.func50, Try.ntmps50
      go_wp2_with fail
      refine (nat_Valid xs A c _ _ w HA.out hm1).mono ?_
      rintro e w' ⟨rfl, rfl⟩
      go_wp2_with fail
      go_ret2
      exact ⟨ret_two HV.out.symm HE.out.symm, rfl⟩
    · have hl' : decide ((2 : Int) < (xs.length : Int)) = false := decide_eq_false (by omega)
      have hw := nat_word xs A c _ _ w HA.out (nrm_lok hn) hl
      rcases Int.lt_or_le 1125899906842624 (nval xs) with hb | hb
      · have HV := Lib.hid (show intV xs = 0 by rw [intV, hx, if_pos rfl, if_neg (by omega)])
        have HE := Lib.hid (show intE xs = 2 by rw [intE, hx, if_pos rfl, if_neg (by omega)])
        have HW := Lib.hid hw
        clear hw hn
        go_enter Try.func50, Try.ntmps50
        go_wp2_with fail
        refine (nat_Valid xs A c _ _ w HA.out hm1).mono ?_
        rintro e w' ⟨rfl, rfl⟩
        go_wp2_with fail
        refine HW.out.mono ?_
        rintro e w' ⟨rfl, rfl⟩
        go_wp2_with fail
        go_ret2
        exact ⟨ret_two HV.out.symm HE.out.symm, rfl⟩
      · have hb' : decide (1125899906842624 < nval xs) = false := decide_eq_false (by omega)
        have HV := Lib.hid (show intV xs = nval xs by rw [intV, hx, if_pos rfl, if_pos hb])
        have HE := Lib.hid (show intE xs = 0 by rw [intE, hx, if_pos rfl, if_pos hb])
        have HW := Lib.hid hw
        clear hw hn hb
        go_enter Try.func50, Try.ntmps50
        go_wp2_with fail
        refine (nat_Valid xs A c _ _ w HA.out hm1).mono ?_
        rintro e w' ⟨rfl, rfl⟩
        go_wp2_with fail
        refine HW.out.mono ?_
        rintro e w' ⟨rfl, rfl⟩
        go_wp2_with fail
        refine HW.out.mono ?_
        rintro e w' ⟨rfl, rfl⟩
        go_wp2_with fail
        go_ret2
        exact ⟨ret_two HV.out.symm HE.out.symm, rfl⟩
end Go.Proofs.Ytdolhanniiejfaa
/- Contracts of at, fit, Add, minus, Sub of the reference. -/
namespace Go.Proofs.Ytdolhanniiejfaa
open Go.ChangeShapes Go.WideShapes Go.RowKit
set_option linter.unusedVariables false
set_option maxRecDepth 100000

end Go.Proofs.Ytdolhanniiejfaa
/- Contracts of Add, minus, Sub of the reference; the walk of NatSums. -/
namespace Go.Proofs.Ytdolhanniiejfaa
open Go.ChangeShapes Go.WideShapes Go.RowKit
set_option linter.unusedVariables false
set_option maxRecDepth 100000

theorem lok_snoc {ds : List Int} {x : Int} (h : lok ds = true) (h0 : 0 ≤ x) (h1 : x < 1000000000) : lok (ds ++ [x]) = true := by
  rw [lok_append]; exact ⟨h, by simp [lok, h0, h1]⟩
theorem radd_step {xs ys ds : List Int} {k : Nat} {c T : Int} (hl : ds.length = k) (hv : nval ds + 1000000000 ^ k * (c + nval (xs.drop k) + nval (ys.drop k)) = T) :
    nval (ds ++ [(xs.getD k 0 + ys.getD k 0 + c) % 1000000000]) + 1000000000 ^ (k + 1) * ((xs.getD k 0 + ys.getD k 0 + c) / 1000000000 + nval (xs.drop (k + 1)) + nval (ys.drop (k + 1))) = T := by
  rw [nval_snoc, hl, ← hv, nval_drop_getD xs k, nval_drop_getD ys k, Int.pow_succ, Int.mul_assoc, Int.add_assoc, ← Int.mul_add]
  congr 2
  have e := Int.emod_add_mul_ediv (xs.getD k 0 + ys.getD k 0 + c) 1000000000
  omega
theorem drop_ge {xs : List Int} {k : Nat} (h : xs.length ≤ k) : nval (xs.drop k) = 0 := by rw [List.drop_eq_nil_of_le h]; rfl

end Go.Proofs.Ytdolhanniiejfaa
/- Contracts of minus and Sub of the reference; the walk of NatSums. -/
namespace Go.Proofs.Ytdolhanniiejfaa
open Go.ChangeShapes Go.WideShapes Go.RowKit
set_option linter.unusedVariables false
set_option maxRecDepth 100000

theorem rmin_step {xs ys ds : List Int} {k : Nat} {x y bo b' T : Int} (hl : ds.length = k) (hx : xs.getD k 0 = x) (hy : ys.getD k 0 = y) (hv : nval ds + 1000000000 ^ k * (nval (xs.drop k) - nval (ys.drop k) - bo) = T) :
    nval (ds ++ [x - y - bo + 1000000000 * b']) + 1000000000 ^ (k + 1) * (nval (xs.drop (k + 1)) - nval (ys.drop (k + 1)) - b') = T := by
  rw [nval_snoc, hl, ← hv, nval_drop_getD xs k, nval_drop_getD ys k, hx, hy, Int.pow_succ, Int.mul_assoc, Int.add_assoc, ← Int.mul_add]
  congr 2
  omega
theorem rmin_end {xs ys ds : List Int} {bo : Int} (hx : lok xs = true) (hy : lok ys = true) (hle : nval ys ≤ nval xs) (hdl : ds.length = xs.length) (hdk : lok ds = true) (b0 : 0 ≤ bo)
    (hv : nval ds + 1000000000 ^ xs.length * (nval (xs.drop xs.length) - nval (ys.drop xs.length) - bo) = nval xs - nval ys) : nval ds = nval xs - nval ys := by
  rw [List.drop_length] at hv
  have h1 := nval_nonneg (lok_drop hy xs.length)
  have h2 := nval_lt hdk
  rw [hdl] at h2
  have e0 : nval ([] : List Int) = 0 := rfl
  rw [e0] at hv
  rcases Int.lt_or_le 0 (nval (ys.drop xs.length) + bo) with h | h
  · exfalso
    have p := pow_pos' xs.length
    have : (1000000000 : Int) ^ xs.length * (0 - nval (ys.drop xs.length) - bo) ≤ 1000000000 ^ xs.length * (-1) := Int.mul_le_mul_of_nonneg_left (by omega) (Int.le_of_lt p)
    omega
  · have e : (0 : Int) - nval (ys.drop xs.length) - bo = 0 := by omega
    rw [e, Int.mul_zero] at hv
    omega

theorem one_cell (w : World) (t : TypeId) (x : Value) (j : Nat) (u : Value) (hj : [x][j]? = some u) : (w.alloc (.cells #[x] t)).cell? ((⟨w.heap.size, 0, none⟩ : Addr).add j) = some u := by
  match j, hj with
  | 0, hj =>
    obtain rfl : x = u := by simpa using hj
    show (w.alloc (.cells #[x] t)).cell? ⟨w.heap.size, 0, none⟩ = some x
    rw [cell_of_row _ w.heap.size 0 #[x] t (0, 0) (heap_alloc_new w _)]
    rfl

theorem sub_fit {xs ys : List Int} (hx : validB xs = true) (hy : validB ys = true) (hle : nval ys ≤ nval xs) : (nval xs - nval ys).toNat < 1000000000 ^ 48 := by
  have h0 := nval_nonneg (valid_lok hy)
  have hl := nrm_limbs (valid_nrm hx)
  have : (nval xs).toNat < 1000000000 ^ 48 := limbs_len_le.mp (by rw [← hl]; exact valid_len hx)
  exact Nat.lt_of_le_of_lt (by omega) this

theorem res_open {w w' : World} {N : Nat} {err : Int} {e : Ending} (h : Res w N err e w') : ∃ v, e = .returned (.tuple #[v, .int .i64 err]) ∧ In w' v (limbs N) ∧ Below w.heap.size w w' := by
  obtain ⟨v, h1, h2, h3⟩ := h; exact ⟨v, h1, h2.toIn, h3⟩
end Go.Proofs.Ytdolhanniiejfaa
/- Contracts of times and Mul of the reference. -/
namespace Go.Proofs.Ytdolhanniiejfaa
open Go.ChangeShapes Go.WideShapes Go.RowKit
set_option linter.unusedVariables false
set_option maxRecDepth 100000

theorem nval_set (P : List Int) : ∀ (j : Nat) (v : Int), j < P.length → nval (P.set j v) = nval P + 1000000000 ^ j * (v - P.getD j 0) := by
  induction P with
  | nil => intro j v h; simp at h
  | cons p P ih =>
    intro j v h
    cases j with
    | zero => simp [nval]; omega
    | succ j =>
      have i := ih j v (by simpa using h)
      have e : (p :: P).getD (j + 1) 0 = P.getD j 0 := by simp
      rw [List.set_cons_succ, nval, nval, i, e, Int.pow_succ, Int.mul_add, Int.mul_comm (1000000000 ^ j) 1000000000, Int.mul_assoc]; omega
theorem mul_bd2 {x y : Int} (h0 : 0 ≤ x) (h1 : x < 1000000000) (h2 : 0 ≤ y) (h3 : y < 1000000000) : 0 ≤ x * y ∧ x * y ≤ 999999998000000001 :=
  ⟨Int.mul_nonneg h0 h2, (mul_bd (by omega) h1 h2 h3).2⟩
theorem inner_step {P ys : List Int} {j k : Nat} {p x y c T : Int} (hj : j < P.length) (hp : P.getD j 0 = p) (hy : ys.getD k 0 = y) (hv : nval P + 1000000000 ^ j * (c + x * nval (ys.drop k)) = T) :
    nval (P.set j ((p + x * y + c) % 1000000000)) + 1000000000 ^ (j + 1) * ((p + x * y + c) / 1000000000 + x * nval (ys.drop (k + 1))) = T := by
  rw [nval_set P j _ hj, hp, ← hv, nval_drop_getD ys k, hy, Int.pow_succ, Int.mul_assoc, Int.add_assoc, ← Int.mul_add, Int.mul_add x]
  have e2 : x * (1000000000 * nval (ys.drop (k + 1))) = 1000000000 * (x * nval (ys.drop (k + 1))) := by rw [Int.mul_left_comm]
  rw [e2]
  congr 2
  have e := Int.emod_add_mul_ediv (p + x * y + c) 1000000000
  omega
/-- Behind the last limb nothing is carried. -/
theorem inner_top {P xs ys : List Int} {i k : Nat} {x c : Int} (hP : lok P = true) (hx : lok xs = true) (hy : lok ys = true) (hxi : xs[i]? = some x) (c0 : 0 ≤ c) (hk : ys.length ≤ k)
    (hv : nval P + 1000000000 ^ (i + k) * (c + x * nval (ys.drop k)) = nval (xs.take (i + 1)) * nval ys) : 0 < c → k = ys.length := by
  intro hc
  rw [drop_ge hk, Int.mul_zero, Int.add_zero] at hv
  have h0 := nval_nonneg hP
  have hi : i < xs.length := by
    rcases Nat.lt_or_ge i xs.length with h | h
    · exact h
    · rw [List.getElem?_eq_none h] at hxi; cases hxi
  have a := nval_lt (lok_take hx (i + 1))
  have a0 := nval_nonneg (lok_take hx (i + 1))
  have b := nval_lt hy
  have b0 := nval_nonneg hy
  rw [List.length_take, Nat.min_eq_left (by omega)] at a
  rcases Nat.lt_or_ge ys.length k with h | h
  · exfalso
    have p1 := pow_pos' (i + 1)
    have p2 := pow_pos' ys.length
    have m1 : nval (xs.take (i + 1)) * nval ys ≤ 1000000000 ^ (i + 1) * nval ys := Int.mul_le_mul_of_nonneg_right (Int.le_of_lt a) b0
    have m2 : (1000000000 : Int) ^ (i + 1) * nval ys < 1000000000 ^ (i + 1) * 1000000000 ^ ys.length := Int.mul_lt_mul_of_pos_left b p1
    rw [← Int.pow_add] at m2
    have m3 : (1000000000 : Int) ^ (i + 1 + ys.length) ≤ 1000000000 ^ (i + k) := pow_le_pow' (by omega)
    have m4 : (1000000000 : Int) ^ (i + k) * 1 ≤ 1000000000 ^ (i + k) * c := Int.mul_le_mul_of_nonneg_left (by omega) (Int.le_of_lt (pow_pos' _))
    omega
  · omega
theorem outer_next {P xs ys : List Int} {i : Nat} {x : Int} (hxi : xs[i]? = some x) (hv : nval P = nval (xs.take i) * nval ys) :
    nval P + 1000000000 ^ (i + 0) * (0 + x * nval (ys.drop 0)) = nval (xs.take (i + 1)) * nval ys := by
  have hi : i < xs.length := by
    rcases Nat.lt_or_ge i xs.length with h | h
    · exact h
    · rw [List.getElem?_eq_none h] at hxi; cases hxi
  rw [trim_step hxi, nval_snoc, List.length_take, Nat.min_eq_left (by omega), List.drop_zero, Nat.add_zero, Int.zero_add, hv, Int.add_mul, Int.mul_assoc]
theorem inner_end {P ys : List Int} {i k : Nat} {x c T : Int} (hk : ys.length ≤ k) (hc : c = 0) (hv : nval P + 1000000000 ^ (i + k) * (c + x * nval (ys.drop k)) = T) : nval P = T := by
  rw [drop_ge hk, hc] at hv; simpa using hv

end Go.Proofs.Ytdolhanniiejfaa
/- The contract of nat.takeOff. -/
namespace Go.Proofs.Ytdolhanniiejfaa
open Go.ChangeShapes Go.WideShapes Go.RowKit
set_option linter.unusedVariables false
set_option maxRecDepth 100000

/-- The last two limbs. -/
theorem nval_top {S : List Int} {l : Nat} {a0 a1 : Int} (hl : S.length = l + 2) (h0 : S[l]? = some a0) (h1 : S[l + 1]? = some a1) :
    nval S = nval (S.take l) + 1000000000 ^ l * (a0 + 1000000000 * a1) := by
  have e := nval_append (S.take l) (S.drop l)
  rw [List.take_append_drop, List.length_take, Nat.min_eq_left (by omega)] at e
  rw [e, nval_drop_step h0, nval_drop_step h1, List.drop_eq_nil_of_le (by omega)]
  simp [nval]
theorem nval_top1 {S : List Int} {l : Nat} {a0 : Int} (hl : S.length = l + 1) (h0 : S[l]? = some a0) :
    nval S = nval (S.take l) + 1000000000 ^ l * a0 := by
  have e := nval_append (S.take l) (S.drop l)
  rw [List.take_append_drop, List.length_take, Nat.min_eq_left (by omega)] at e
  rw [e, nval_drop_step h0, List.drop_eq_nil_of_le (by omega)]
  simp [nval]
/-- The guess is not too small. -/
theorem guess_ge {S ys : List Int} {l : Nat} {a0 a1 b1 : Int} (hS : lok S = true) (hy : lok ys = true) (hl : S.length = l + 2) (hly : ys.length = l + 1) (h0 : S[l]? = some a0) (h1 : S[l + 1]? = some a1) (hb : ys[l]? = some b1)
    (hb0 : 0 < b1) (hlt : nval S < 1000000000 * nval ys) :
    nval S / nval ys ≤ min ((a1 * 1000000000 + a0) / b1) 999999999 ∧ 0 ≤ nval S / nval ys ∧ 0 < nval ys := by
  have eS := nval_top hl h0 h1
  have eY := nval_top1 hly hb
  have s0 := nval_nonneg (lok_take hS l)
  have s1 := nval_lt (lok_take hS l)
  have y0 := nval_nonneg (lok_take hy l)
  rw [List.length_take, Nat.min_eq_left (by omega)] at s1
  have p := pow_pos' l
  obtain ⟨P, hP⟩ : ∃ P : Int, P = 1000000000 ^ l := ⟨_, rfl⟩
  rw [← hP] at eS eY s1 p
  have hpb : P * 1 ≤ P * b1 := Int.mul_le_mul_of_nonneg_left (by omega) (Int.le_of_lt p)
  have ypos : 0 < nval ys := by omega
  have snn := nval_nonneg hS
  have q0 : 0 ≤ nval S / nval ys := Int.ediv_nonneg snn (Int.le_of_lt ypos)
  obtain ⟨q, hq⟩ : ∃ q, q = nval S / nval ys := ⟨_, rfl⟩
  have hqS : q * nval ys ≤ nval S := by rw [hq]; exact Int.ediv_mul_le _ (by omega)
  rw [← hq] at q0 ⊢
  refine ⟨?_, q0, ypos⟩
  have h2 : q < 1000000000 := by
    rcases Int.lt_or_le q 1000000000 with h | h
    · exact h
    · have : 1000000000 * nval ys ≤ q * nval ys := Int.mul_le_mul_of_nonneg_right h (Int.le_of_lt ypos)
      omega
  have h3 : q ≤ (a1 * 1000000000 + a0) / b1 := by
    rw [Int.le_ediv_iff_mul_le hb0]
    have m1 : q * (P * b1) ≤ q * nval ys := Int.mul_le_mul_of_nonneg_left (by omega) q0
    have m2 : P * (q * b1) < P * (a1 * 1000000000 + a0 + 1) := by
      have e1 : P * (q * b1) = q * (P * b1) := by rw [Int.mul_left_comm]
      have e2 : P * (a1 * 1000000000 + a0 + 1) = P * (a0 + 1000000000 * a1) + P := by
        have : a1 * 1000000000 + a0 + 1 = (a0 + 1000000000 * a1) + 1 := by omega
        rw [this, Int.mul_add, Int.mul_one]
      omega
    have := Int.lt_of_mul_lt_mul_left m2 (Int.le_of_lt p)
    omega
  omega
/-- The last limb behind a subtraction. -/
theorem last_bd {T : List Int} {l : Nat} {z V : Int} (hd : lok T.dropLast = true) (hl : T.length = l + 1) (hz : T[l]? = some z) (hv : nval T = V) (h1 : -(1000000000 * 1000000000 ^ l) < V) (h2 : V < 1000000000 ^ (l + 1)) :
    -2000000000 < z ∧ z < 2000000000 ∧ (z < 0 ↔ V < 0) := by
  have e := nval_top1 hl hz
  have ht : T.take l = T.dropLast := by rw [List.dropLast_eq_take]; congr 1; omega
  have s0 := nval_nonneg hd
  have s1 := nval_lt hd
  have hdl : T.dropLast.length = l := by rw [List.length_dropLast]; omega
  rw [hdl] at s1
  rw [ht, hv] at e
  have p := pow_pos' l
  rw [Int.pow_succ] at h2
  obtain ⟨P, hP⟩ : ∃ P : Int, P = 1000000000 ^ l := ⟨_, rfl⟩
  rw [← hP] at e s1 p h1 h2
  have a1 : -2000000000 < z := by
    rcases Int.lt_or_le (-2000000000) z with h | h
    · exact h
    · have : P * z ≤ P * (-2000000000) := Int.mul_le_mul_of_nonneg_left h (Int.le_of_lt p)
      omega
  have a2 : z < 2000000000 := by
    rcases Int.lt_or_le z 2000000000 with h | h
    · exact h
    · have : P * 2000000000 ≤ P * z := Int.mul_le_mul_of_nonneg_left h (Int.le_of_lt p)
      omega
  refine ⟨a1, a2, ?_, ?_⟩
  · intro h
    have : P * z ≤ P * (-1) := Int.mul_le_mul_of_nonneg_left (by omega) (Int.le_of_lt p)
    omega
  · intro h
    rcases Int.lt_or_le z 0 with h3 | h3
    · exact h3
    · have := Int.mul_nonneg (Int.le_of_lt p) h3
      omega
theorem quo_of {S Y n : Int} (hy : 0 < Y) (hq : S / Y ≤ n) (hnn : 0 ≤ S - n * Y) : n = S / Y ∧ S - n * Y = S % Y := by
  have h1 : n ≤ S / Y := by rw [Int.le_ediv_iff_mul_le hy]; omega
  have e : n = S / Y := by omega
  refine ⟨e, ?_⟩
  have := Int.emod_add_mul_ediv S Y
  rw [e, Int.mul_comm]; omega
theorem take_state {S ys T : List Int} {l : Nat} {n z : Int} (hS : lok S = true) (hy : lok ys = true) (hl : S.length = l + 2) (hly : ys.length = l + 1) (hlt : nval S < 1000000000 * nval ys) (ypos : 0 < nval ys)
    (hT : T.length = l + 2) (hd : lok T.dropLast = true) (hv : nval T = nval S - n * nval ys) (hz : T[l + 1]? = some z) (n0 : 0 ≤ n) (n1 : n ≤ 999999999) :
    -2000000000 < z ∧ z < 2000000000 ∧ (z < 0 ↔ nval S - n * nval ys < 0) := by
  have y1 := nval_lt hy
  rw [hly] at y1
  have snn := nval_nonneg hS
  have s1 := nval_lt hS
  rw [hl] at s1
  have m : n * nval ys ≤ 999999999 * nval ys := Int.mul_le_mul_of_nonneg_right n1 (Int.le_of_lt ypos)
  have m0 : 0 ≤ n * nval ys := Int.mul_nonneg n0 (Int.le_of_lt ypos)
  have p := pow_pos' (l + 1)
  exact last_bd hd hT hz hv (by omega) (by rw [show l + 1 + 1 = l + 2 from rfl]; omega)
theorem take_last {S ys T : List Int} {l : Nat} (hy : lok ys = true) (hly : ys.length = l + 1) (ypos : 0 < nval ys) (hT : T.length = l + 2) (hd : lok T.dropLast = true) (hv : nval T = nval S % nval ys) : lok T = true := by
  have y1 := nval_lt hy
  rw [hly] at y1
  have h1 := Int.emod_nonneg (nval S) (show nval ys ≠ 0 by omega)
  have h2 := Int.emod_lt_of_pos (nval S) ypos
  refine lok_of_dropLast (by intro h; rw [h] at hT; simp at hT) hd (by omega) ?_
  rw [hT, hv]
  have : (1000000000 : Int) ^ (l + 1) ≤ 1000000000 ^ (l + 2) := pow_le_pow' (by omega)
  omega
end Go.Proofs.Ytdolhanniiejfaa
/- The contract of nat.takeOff: the walk. -/
namespace Go.Proofs.Ytdolhanniiejfaa
open Go.ChangeShapes Go.WideShapes Go.RowKit
set_option linter.unusedVariables false
set_option maxRecDepth 100000

theorem Only.drewN {g : Nat} {a w : World} (h : Only g a w) (n : Nat) : Only g a (w.drewN n) := h.trans ⟨rfl, rfl, rfl, rfl, fun _ _ => rfl⟩

theorem laid_laid {Z D E : List Int} {off : Nat} (h : off + D.length ≤ Z.length) (he : E.length = D.length) : laid (laid Z off D) off E = laid Z off E := by
  have h1 : (laid Z off D).take off = Z.take off := by
    unfold laid; rw [List.take_left' (by rw [List.length_take]; omega)]
  have h2 : (laid Z off D).drop (off + D.length) = Z.drop (off + D.length) := by
    unfold laid
    rw [← List.append_assoc, List.drop_left' (by rw [List.length_append, List.length_take]; omega)]
  unfold laid at h1 h2 ⊢
  rw [he, h1, h2]
theorem add_call (Z T ys : List Int) (l g off c c2 lo hi : Nat) (B : Option Addr) (w : World) (n : Int) (hR : Row w g Z) (hZ : off + (l + 2) ≤ Z.length) (hS : ∀ j, j < l + 2 → Z[off + j]? = T[j]?) (hB : Holds w lo hi B ys) (hg : g < lo ∨ hi ≤ g)
    (hT : T.length = l + 2) (hly : ys.length = l + 1) (hl1 : l ≤ 1000) (hd : lok T.dropLast = true) (hyk : lok ys = true) (hz : ∀ z, T[l + 1]? = some z → -4000000000000000000 < z ∧ z < 4000000000000000000) (n1 : -1000000000 < n) (n2 : n < 1000000000) :
    Calls Try.prog 85 #[.slice (some ⟨g, off, none⟩) (l + 2) c, .slice B (l + 1) c2, .int .i64 n] w
      fun e w' => e = .returned (.tuple #[]) ∧ Row w' g (laid Z off (addT T ys n 0)) ∧ Only g w w' := by
  have h := nat_addTimes Z T ys n g off c c2 lo hi B w hR (by rw [hT]; exact hZ) (fun j hj => hS j (by omega)) hB hg (by omega) (by omega) hd (fun z hz' => hz z (by rw [hT] at hz'; exact hz')) hyk n1 n2
  rw [hT, hly] at h; exact h

set_option maxHeartbeats 3200000 in
theorem nat_takeOff (Z S ys : List Int) (l g off c c2 lo hi : Nat) (B : Option Addr) (w : World) (b1 : Int)
    (hR : Row w g Z) (hZ : off + (l + 2) ≤ Z.length) (hS : ∀ j, j < l + 2 → Z[off + j]? = S[j]?) (hB : Holds w lo hi B ys) (hg : g < lo ∨ hi ≤ g)
    (hl : S.length = l + 2) (hly : ys.length = l + 1) (hl1 : l ≤ 1000) (hSk : lok S = true) (hyk : lok ys = true) (hb : ys[l]? = some b1) (hb0 : 0 < b1) (hlt : nval S < 1000000000 * nval ys) :
    Calls Try.prog 79 #[.slice (some ⟨g, off, none⟩) (l + 2) c, .slice B (l + 1) c2] w
      fun e w' => e = .returned (.int .i64 (nval S / nval ys)) ∧ ∃ T, T.length = l + 2 ∧ lok T = true ∧ nval T = nval S % nval ys ∧ Row w' g (laid Z off T) ∧ Only g w w' := by
  obtain ⟨a0, h0⟩ : ∃ a0, S[l]? = some a0 := ⟨_, List.getElem?_eq_getElem (by omega)⟩
  obtain ⟨a1, h1⟩ : ∃ a1, S[l + 1]? = some a1 := ⟨_, List.getElem?_eq_getElem (by omega)⟩
  have hgs := guess_ge hSk hyk hl hly h0 h1 hb hb0 hlt
  have hc0 := hR.cell (i := off + l) (z := a0) (by rw [hS l (by omega), h0])
  have hc1 := hR.cell (i := off + (l + 1)) (z := a1) (by rw [hS (l + 1) (by omega), h1])
  obtain ⟨b, offb, hBe, _, _, hcb⟩ := hB l b1 hb
  have ab0 := lok_at hSk h0
  have ab1 := lok_at hSk h1
  have bb1 := lok_at hyk hb
  obtain ⟨G, hG⟩ : ∃ G, (a1 * 1000000000 + a0) / b1 = G := ⟨_, rfl⟩
  have hGt : (a1 * 1000000000 + a0).tdiv b1 = G := by rw [Int.tdiv_eq_ediv_of_nonneg (by omega), hG]
  have G0 : 0 ≤ G := by rw [← hG]; exact Int.ediv_nonneg (by omega) (by omega)
  have G1 : G ≤ 999999999999999999 := by
    have h1 : (a1 * 1000000000 + a0) / b1 ≤ a1 * 1000000000 + a0 := Int.ediv_le_self _ (by omega)
    omega
  rw [hG] at hgs
  obtain ⟨N, hN⟩ : ∃ N, min G 999999999 = N := ⟨_, rfl⟩
  rw [hN] at hgs
  have N0 : 0 ≤ N := by omega
  have N1 : N ≤ 999999999 := by omega
  have n0 : ¬ b1 = 0 := by omega
  have n1 : (b1 == 0) = false := beq_false_of_ne n0
  obtain ⟨a00, a01⟩ := ab0
  obtain ⟨a10, a11⟩ := ab1
  obtain ⟨b10, b11⟩ := bb1
  have HR := Lib.hid hR
  have HB := Lib.hid hB
  have HZ := Lib.hid hZ
  have HS := Lib.hid hS
  have HSK := Lib.hid hSk
  have HYK := Lib.hid hyk
  have HL := Lib.hid hl
  have HLY := Lib.hid hly
  have HLT := Lib.hid hlt
  have HGS := Lib.hid hgs
  subst hBe
  clear hR hB hZ hS hSk hyk hl hly hlt hgs h0 h1 hb hG
  go_enter Try.func79, Try.ntmps79
  go_wp2_with fail
  go_quiet (fail)
  go_wp2_with fail
  refine (add_call Z S ys l g off c c2 lo hi _ (w.drewN nq) (-N) (HR.out.keep rfl) HZ.out HS.out (HB.out.keep fun _ _ _ => rfl) hg HL.out HLY.out hl1 (by rw [List.dropLast_eq_take]; exact lok_take HSK.out _) HYK.out (fun z hz => by have := lok_at HSK.out hz; omega) (by omega) (by omega)).mono ?_
  rintro e w1 ⟨rfl, hr1, ho1⟩
  have HR1 := Lib.hid hr1
  have HO1 := Lib.hid (((Only.refl g w).drewN nq).trans ho1)
  have HT1 := Lib.hid (show (addT S ys (-N) 0).length = l + 2 by rw [addT_length, HL.out])
  have HV1 := Lib.hid (show nval (addT S ys (-N) 0) = nval S - N * nval ys by rw [addT_val _ _ _ _ (by rw [HL.out, HLY.out]; omega), Int.neg_mul]; omega)
  clear hr1 ho1 hc0 hc1 hcb
  go_wp2_with fail
  go_loopw [6] (fun nv wr => ∃ (nn : Int) (T : List Int), nv = .int .i64 nn ∧ nval S / nval ys ≤ nn ∧ 0 ≤ nn ∧ nn ≤ 999999999 ∧ T.length = l + 2 ∧ lok T.dropLast = true ∧ nval T = nval S - nn * nval ys ∧ Row wr g (laid Z off T) ∧ Only g w wr) (fun nv _ => (intOf nv).toNat)
  case atStart => exact ⟨N, _, rfl, HGS.out.1, N0, N1, HT1.out, addT_lok _ _ _ _, HV1.out, HR1.out, HO1.out⟩
  case round =>
    obtain ⟨nn, T, rfl, hq, nn0, nn1, hT, hd, hv, hrow, hon⟩ := hrel
    obtain ⟨z, hz⟩ : ∃ z, T[l + 1]? = some z := ⟨_, List.getElem?_eq_getElem (by omega)⟩
    have hcell := hrow.cell (i := off + (l + 1)) (z := z) (by rw [laid_in (by rw [hT]; exact HZ.out) (by omega)]; exact hz)
    have hst := take_state HSK.out HYK.out HL.out HLY.out HLT.out HGS.out.2.2 hT hd hv hz nn0 nn1
    have HQ := Lib.hid hq
    have HT := Lib.hid hT
    have HD := Lib.hid hd
    have HV := Lib.hid hv
    have HRW := Lib.hid hrow
    have HON := Lib.hid hon
    have HZZ := Lib.hid hz
    obtain ⟨z0, z1, z2⟩ := hst
    clear hq hT hd hv hrow hon hz
    rcases Int.lt_or_le z 0 with hneg | hnn
    · have hlt2 := z2.mp hneg
      have hq1 : nval S / nval ys ≤ nn - 1 := by
        rcases Int.lt_or_le (nval S / nval ys) nn with h | h
        · omega
        · exfalso
          have e : nn = nval S / nval ys := by have := HQ.out; omega
          have := Int.ediv_mul_le (nval S) (show nval ys ≠ 0 by have := HGS.out.2.2; omega)
          rw [← e] at this; omega
      have hq0 : 0 ≤ nn - 1 := by have := HGS.out.2.1; omega
      have HQ1 := Lib.hid hq1
      clear hlt2 hq1 z2
      go_wp2_with fail
      refine (add_call (laid Z off T) T ys l g off c c2 lo hi _ _ 1 HRW.out (by rw [laid_length (by rw [HT.out]; exact HZ.out)]; exact HZ.out) (fun j hj => laid_in (by rw [HT.out]; exact HZ.out) (by rw [HT.out]; exact hj)) (HON.out.holds HB.out hg) hg HT.out HLY.out hl1 HD.out HYK.out (fun z' hz' => by rw [HZZ.out] at hz'; cases hz'; omega) (by omega) (by omega)).mono ?_
      rintro e w2 ⟨rfl, hr2, ho2⟩
      have HR2 := Lib.hid (show Row w2 g (laid Z off (addT T ys 1 0)) by rw [← laid_laid (D := T) (by rw [HT.out]; exact HZ.out) (addT_length _ _ _ _)]; exact hr2)
      have HO2 := Lib.hid (HON.out.trans ho2)
      clear hr2 ho2 hcell
      go_wp2_with fail
      go_roundw
      case rel =>
        refine ⟨nn - 1, _, rfl, HQ1.out, hq0, by omega, by rw [addT_length, HT.out], addT_lok _ _ _ _, ?_, HR2.out, HO2.out⟩
        rw [addT_val _ _ _ _ (by rw [HT.out, HLY.out]; omega), HV.out, Int.sub_mul]; omega
      case measure => simp [intOf]; omega
    · have hge : 0 ≤ nval S - nn * nval ys := by
        rcases Int.lt_or_le (nval S - nn * nval ys) 0 with h | h
        · have := z2.mpr h; omega
        · exact h
      have hqq := quo_of HGS.out.2.2 HQ.out hge
      have HQQ := Lib.hid hqq
      have hz' : decide (z < 0) = false := decide_eq_false (by omega)
      clear hge hqq z2
      go_wp2_with fail
      go_ret
      exact ⟨ret_int HQQ.out.1, T, HT.out, take_last (S := S) HYK.out HLY.out HGS.out.2.2 HT.out HD.out (by rw [HV.out, HQQ.out.2]), by rw [HV.out, HQQ.out.2], HRW.out, HON.out⟩
end Go.Proofs.Ytdolhanniiejfaa
/- The contract of nat.divided. -/
namespace Go.Proofs.Ytdolhanniiejfaa
open Go.ChangeShapes Go.WideShapes Go.RowKit
set_option linter.unusedVariables false
set_option maxRecDepth 100000

theorem divd_step {Q zs : List Int} {j : Nat} {z r n : Int} (hj : j < Q.length) (hz : zs[j]? = some z) (hn : 0 < n) (hv : nval (Q.drop (j + 1)) * n + r = nval (zs.drop (j + 1))) :
    nval ((Q.set j ((r * 1000000000 + z) / n)).drop j) * n + (r * 1000000000 + z) % n = nval (zs.drop j) := by
  have e1 : (Q.set j ((r * 1000000000 + z) / n))[j]? = some ((r * 1000000000 + z) / n) := List.getElem?_set_self hj
  rw [nval_drop_step e1, nval_drop_step hz, drop_set_above (by omega), ← hv, Int.add_mul, Int.mul_assoc]
  have e := Int.emod_add_mul_ediv (r * 1000000000 + z) n
  rw [Int.mul_comm ((r * 1000000000 + z) / n) n]
  omega
theorem divd_bd {z r n : Int} (hn : 0 < n) (h0 : 0 ≤ r) (h1 : r < n) (z0 : 0 ≤ z) (z1 : z < 1000000000) : 0 ≤ (r * 1000000000 + z) / n ∧ (r * 1000000000 + z) / n < 1000000000 ∧ 0 ≤ (r * 1000000000 + z) % n ∧ (r * 1000000000 + z) % n < n := by
  refine ⟨Int.ediv_nonneg (by omega) (by omega), ?_, Int.emod_nonneg _ (by omega), Int.emod_lt_of_pos _ hn⟩
  rw [Int.ediv_lt_iff_lt_mul hn]
  have : 1000000000 * (r + 1) ≤ 1000000000 * n := Int.mul_le_mul_of_nonneg_left (by omega) (by omega)
  omega
theorem divd_end {V W r n : Int} (hn : 0 < n) (h0 : 0 ≤ r) (h1 : r < n) (h : W * n + r = V) : W = V / n := by
  rw [← h, Int.add_comm, Int.add_mul_ediv_right _ _ (by omega), Int.ediv_eq_zero_of_lt h0 h1, Int.zero_add]

set_option maxHeartbeats 1600000 in
theorem nat_divided (zs : List Int) (A : Option Addr) (c lo hi : Nat) (n : Int) (w : World) (hS : Holds w lo hi A zs) (hh : hi ≤ w.heap.size) (hk : lok zs = true) (hl : zs.length ≤ 100000) (n0 : 0 < n) (n1 : n < 1000000000) :
    Calls Try.prog 81 #[.slice A zs.length c, .int .i64 n] w
      fun e w' => e = .returned (.slice (some ⟨w.heap.size, 0, none⟩) zs.length zs.length) ∧ ∃ Q, Q.length = zs.length ∧ lok Q = true ∧ nval Q = nval zs / n ∧ Row w' w.heap.size Q ∧ Below w.heap.size w w' := by
  obtain ⟨i0, hi0, hz0, hz1, hz2⟩ := info_parts info_int
  have HS := Lib.hid hS
  have HK := Lib.hid hk
  have m0 : ¬ n = 0 := by omega
  have m1 : (n == 0) = false := beq_false_of_ne m0
  clear hS hk
  go_enter Try.func81, Try.ntmps81
  go_wp2_with (first
    | (at_make; refine wpList_make_full _ rfl _ _ 33 rfl w.heap.size 3 i0 (.int .i64 0) 1 Try.underlying33 hi0 hz0 hz1 .i64 .i64 _ _ zs.length rfl rfl rfl rfl (by rw [hz2]; omega) (by unfold maxLen; omega) (Nat.le_refl _) ?_; intro w1 hown hgrow; refine Hid.out ?_)
    | fail)
  refine Lib.hid ?_
  have HR0 := Lib.hid (show Row w1 w.heap.size (List.replicate zs.length 0) from row_of_heap (heap_of_made hown))
  have HB0 := Lib.hid (show Below w.heap.size w w1 from (Below.refl _ _).grown hgrow (Nat.le_refl _) (fun k hk => by cases hk))
  clear hown hgrow
  go_wp2_with fail
  go_loopw [6, 14] (fun rv i wr => ∃ (k : Nat) (r : Int) (Q : List Int), k ≤ zs.length ∧ i = .int .i64 k ∧ rv = .int .i64 r ∧ 0 ≤ r ∧ r < n ∧ Q.length = zs.length ∧ lok Q = true ∧ nval (Q.drop (zs.length - k)) * n + r = nval (zs.drop (zs.length - k)) ∧ Row wr w.heap.size Q ∧ Below w.heap.size w wr) (fun _ i _ => zs.length - (intOf i).toNat)
  case atStart => exact ⟨0, 0, _, Nat.zero_le _, rfl, rfl, by omega, n0, by simp, lok_zeros _, by simp [nval], HR0.out, HB0.out⟩
  case round =>
    obtain ⟨k, r, Q, hk, rfl, rfl, r0, r1, hQ, hQk, hQv, hrow, hbel⟩ := hrel
    have HQ := Lib.hid hQ
    have HQK := Lib.hid hQk
    have HQV := Lib.hid hQv
    have HR := Lib.hid hrow
    have HB := Lib.hid hbel
    clear hQ hQk hQv hrow hbel
    rcases Nat.lt_or_ge k zs.length with hlt | hge
    · obtain ⟨j, hj⟩ : ∃ j, j = zs.length - 1 - k := ⟨_, rfl⟩
      obtain ⟨z, hz⟩ : ∃ z, zs[j]? = some z := ⟨_, List.getElem?_eq_getElem (by omega)⟩
      obtain ⟨b, off, rfl, _, _, hcell⟩ := (HS.out.below HB.out hh) j z hz
      have zb := lok_at HK.out hz
      have hb := divd_bd n0 r0 r1 zb.1 zb.2
      have hjQ : j < Q.length := by rw [HQ.out]; omega
      have e1 : zs.length - k = j + 1 := by omega
      have hv := HQV.out
      rw [e1] at hv
      have hst := divd_step hjQ hz n0 hv
      obtain ⟨q, hqe⟩ : ∃ q, q = Q.getD j 0 := ⟨_, rfl⟩
      have hcq := HR.out.cell (i := j) (z := q) (by rw [hqe, List.getD_eq_getElem?_getD, List.getElem?_eq_getElem hjQ]; rfl)
      have hfr := HR.out.frozen j
      obtain ⟨z0, z1⟩ := zb
      have ej : (zs.length : Int) - 1 - k = (j : Int) := by omega
      have hjl : j < zs.length := by omega
      have t0 : (r * 1000000000 + z).tdiv n = (r * 1000000000 + z) / n := Int.tdiv_eq_ediv_of_nonneg (by omega)
      have t1 : (r * 1000000000 + z).tmod n = (r * 1000000000 + z) % n := Int.tmod_eq_emod_of_nonneg (by omega)
      have e2 : zs.length - (k + 1) = j := by omega
      have E2 := Lib.hid e2
      have hw : IntKind.i64.wrap ((r * 1000000000 + z) / n) = (r * 1000000000 + z) / n := wrap_id (by omega) (by omega)
      have HST := Lib.hid hst
      obtain ⟨b0, b1, b2, b3⟩ := hb
      clear hz hj hjQ e1 hv hst hqe e2
      go_wp2_with fail
      go_region_with (fail)
      go_wp2_with fail
      go_roundw
      case rel =>
        refine ⟨k + 1, _, Q.set j ((r * 1000000000 + z) / n), by omega, by go_num, rfl, b2, b3, by rw [List.length_set]; exact HQ.out, lok_set HQK.out _ b0 b1, by rw [E2.out]; exact HST.out, ?_, ?_⟩
        · exact Row.store (w := wr.drew) (HR.out.keep rfl) j _
        · exact (HB.out.drew).setCell (p := ⟨w.heap.size, j, none⟩) (Nat.le_refl _) _
      case measure => simp [intOf]; omega
    · obtain rfl : k = zs.length := by omega
      have hv := HQV.out
      rw [Nat.sub_self, List.drop_zero, List.drop_zero] at hv
      have HV := Lib.hid (divd_end n0 r0 r1 hv)
      clear hv
      go_wp2_with fail
      go_ret
      exact ⟨rfl, Q, HQ.out, HQK.out, HV.out, HR.out, HB.out⟩
end Go.Proofs.Ytdolhanniiejfaa
/- Long division: the arithmetic. No walk. -/
namespace Go.Proofs.Ytdolhanniiejfaa
open Go.ChangeShapes Go.WideShapes Go.RowKit
set_option linter.unusedVariables false
set_option maxRecDepth 100000

theorem fac_bd {b : Int} (h0 : 0 < b) (h1 : b < 1000000000) : 1 ≤ 1000000000 / (b + 1) ∧ 1000000000 / (b + 1) < 1000000000 ∧ 1000000000 / (b + 1) * (b + 1) ≤ 1000000000 := by
  refine ⟨?_, ?_, Int.ediv_mul_le _ (by omega)⟩
  · rw [Int.le_ediv_iff_mul_le (by omega)]; omega
  · rw [Int.ediv_lt_iff_lt_mul (by omega)]; omega
theorem top_ge {ys : List Int} {l : Nat} {b : Int} (hy : lok ys = true) (hl : ys.length = l + 1) (hb : ys[l]? = some b) (h0 : 0 < b) : 1000000000 ^ l ≤ nval ys ∧ nval ys < (b + 1) * 1000000000 ^ l := by
  have e := nval_top1 hl hb
  have s0 := nval_nonneg (lok_take hy l)
  have s1 := nval_lt (lok_take hy l)
  rw [List.length_take, Nat.min_eq_left (by omega)] at s1
  have p := pow_pos' l
  obtain ⟨P, hP⟩ : ∃ P : Int, P = 1000000000 ^ l := ⟨_, rfl⟩
  rw [← hP] at e s1 p ⊢
  have m : P * 1 ≤ P * b := Int.mul_le_mul_of_nonneg_left (by omega) (Int.le_of_lt p)
  have m2 : (b + 1) * P = P * b + P := by rw [Int.add_mul, Int.one_mul, Int.mul_comm]
  omega
/-- The dividend, times the factor. -/
theorem rest_ok {xs : List Int} {f : Int} (hx : lok xs = true) (f0 : 0 ≤ f) (f1 : f < 1000000000) :
    lok (addT (List.replicate (xs.length + 1) 0) xs f 0) = true ∧ nval (addT (List.replicate (xs.length + 1) 0) xs f 0) = f * nval xs := by
  have hv : nval (addT (List.replicate (xs.length + 1) 0) xs f 0) = f * nval xs := by rw [addT_val _ _ _ _ (by simp), nval_zeros]; omega
  have x0 := nval_nonneg hx
  have x1 := nval_lt hx
  refine ⟨lok_of_dropLast ?_ (addT_lok _ _ _ _) (by rw [hv]; exact Int.mul_nonneg f0 x0) ?_, hv⟩
  · intro h; have := addT_length (List.replicate (xs.length + 1) 0) xs f 0; rw [h] at this; simp at this
  · rw [hv, addT_length, List.length_replicate, Int.pow_succ]
    have : f * nval xs ≤ 999999999 * nval xs := Int.mul_le_mul_of_nonneg_right (by omega) x0
    omega
/-- The divisor, times the factor, has no limb more. -/
theorem divisor_ok {ys D0 : List Int} {l : Nat} {b f : Int} (hy : lok ys = true) (hl : ys.length = l + 1) (hb : ys[l]? = some b) (h0 : 0 < b) (f0 : 1 ≤ f) (hf : f * (b + 1) ≤ 1000000000)
    (hk : lok D0 = true) (hv : nval D0 = f * nval ys) (hD : D0.length = l + 2) :
    (D0.take (l + 1)).length = l + 1 ∧ lok (D0.take (l + 1)) = true ∧ nval (D0.take (l + 1)) = f * nval ys ∧ ∃ d, (D0.take (l + 1))[l]? = some d ∧ 0 < d := by
  have t := top_ge hy hl hb h0
  have hlen : (D0.take (l + 1)).length = l + 1 := by rw [List.length_take]; omega
  have hok := lok_take hk (l + 1)
  have e := nval_append (D0.take (l + 1)) (D0.drop (l + 1))
  rw [List.take_append_drop, hlen, hv] at e
  have s0 := nval_nonneg hok
  have u0 := nval_nonneg (lok_drop hk (l + 1))
  have p := pow_pos' (l + 1)
  have p' := pow_pos' l
  have hlt : f * nval ys < 1000000000 ^ (l + 1) := by
    have m1 : f * nval ys < f * ((b + 1) * 1000000000 ^ l) := Int.mul_lt_mul_of_pos_left t.2 (by omega)
    have m2 : f * (b + 1) * 1000000000 ^ l ≤ 1000000000 * 1000000000 ^ l := Int.mul_le_mul_of_nonneg_right hf (Int.le_of_lt p')
    rw [Int.mul_assoc] at m2
    rw [Int.pow_succ]; omega
  have hz : nval (D0.drop (l + 1)) = 0 := by
    rcases Int.lt_or_eq_of_le u0 with h | h
    · have : (1000000000 : Int) ^ (l + 1) * 1 ≤ 1000000000 ^ (l + 1) * nval (D0.drop (l + 1)) := Int.mul_le_mul_of_nonneg_left (by omega) (Int.le_of_lt p)
      omega
    · exact h.symm
  rw [hz, Int.mul_zero, Int.add_zero] at e
  refine ⟨hlen, hok, e.symm, ?_⟩
  obtain ⟨d, hd⟩ : ∃ d, (D0.take (l + 1))[l]? = some d := ⟨_, List.getElem?_eq_getElem (by omega)⟩
  refine ⟨d, hd, ?_⟩
  have d0 := (lok_at hok hd).1
  rcases Int.lt_or_eq_of_le d0 with h | h
  · exact h
  · exfalso
    have e2 := nval_top1 hlen hd
    have s1 := nval_lt (lok_take hok l)
    rw [List.length_take, Nat.min_eq_left (by omega)] at s1
    rw [← h, Int.mul_zero, Int.add_zero] at e2
    have m : 1 * nval ys ≤ f * nval ys := Int.mul_le_mul_of_nonneg_right f0 (by omega)
    omega

/-- The state of the division with t limbs of the quotient to come. -/
structure DInv (X Dv : Int) (la nq : Nat) (R Q : List Int) (t : Nat) : Prop where
  rl : R.length = la + 1
  rk : lok R = true
  ql : Q.length = nq
  qk : lok Q = true
  val : nval (Q.drop t) * Dv * 1000000000 ^ t + nval R = X
  lt : nval (R.drop t) < Dv
theorem dinv_start {xs ys R0 : List Int} {l nq : Nat} {b f : Int} (hx : lok xs = true) (hy : lok ys = true) (hl : ys.length = l + 1) (hb : ys[l]? = some b) (h0 : 0 < b) (f0 : 1 ≤ f)
    (hR : R0.length = xs.length + 1) (hRk : lok R0 = true) (hRv : nval R0 = f * nval xs) (hn : nq + l = xs.length) : DInv (f * nval xs) (f * nval ys) xs.length nq R0 (List.replicate nq 0) nq := by
  refine ⟨hR, hRk, by simp, lok_zeros _, ?_, ?_⟩
  · rw [List.drop_replicate, nval_zeros, hRv]; simp
  · have e := nval_append (R0.take nq) (R0.drop nq)
    rw [List.take_append_drop, List.length_take, Nat.min_eq_left (by omega), hRv] at e
    have s0 := nval_nonneg (lok_take hRk nq)
    have x1 := nval_lt hx
    have t := top_ge hy hl hb h0
    have p := pow_pos' nq
    have e2 : (1000000000 : Int) ^ xs.length = 1000000000 ^ nq * 1000000000 ^ l := by rw [← hn, Int.pow_add]
    have m1 : f * nval xs < f * (1000000000 ^ nq * 1000000000 ^ l) := by rw [← e2]; exact Int.mul_lt_mul_of_pos_left x1 (by omega)
    have m2 : f * 1000000000 ^ l ≤ f * nval ys := Int.mul_le_mul_of_nonneg_left t.1 (by omega)
    have m3 : (1000000000 : Int) ^ nq * nval (R0.drop nq) < 1000000000 ^ nq * (f * 1000000000 ^ l) := by
      have : f * ((1000000000 : Int) ^ nq * 1000000000 ^ l) = 1000000000 ^ nq * (f * 1000000000 ^ l) := by rw [Int.mul_left_comm]
      omega
    have := Int.lt_of_mul_lt_mul_left m3 (Int.le_of_lt p)
    omega
theorem laid_drop {Z D : List Int} {off : Nat} (h : off ≤ Z.length) : (laid Z off D).drop off = D ++ Z.drop (off + D.length) := by
  unfold laid; rw [List.drop_left' (by rw [List.length_take]; omega)]
theorem dinv_win {X Dv : Int} {la nq l a : Nat} {R Q D : List Int} (h : DInv X Dv la nq R Q (a + 1)) (ha : a + (l + 2) ≤ la + 1) (hD : lok D = true) (hDl : D.length = l + 1) (hDv : nval D = Dv) :
    nval (win R a (l + 2)) < 1000000000 * Dv ∧ nval (R.drop (a + (l + 2))) = 0 := by
  have e1 := nval_drop_getD R a
  have e2 : R.drop a = win R a (l + 2) ++ R.drop (a + (l + 2)) := by unfold win; rw [← List.drop_drop, List.take_append_drop]
  have hw : (win R a (l + 2)).length = l + 2 := win_length (by rw [h.rl]; exact ha)
  have e3 := congrArg nval e2
  rw [nval_append, hw] at e3
  have r0 := lok_getD h.rk a
  have w0 := nval_nonneg (lok_take (lok_drop h.rk a) (l + 2))
  have u0 := nval_nonneg (lok_drop h.rk (a + (l + 2)))
  have hlt := h.lt
  have d1 := nval_lt hD
  rw [hDl, hDv] at d1
  have p := pow_pos' (l + 2)
  have hlt2 : nval (R.drop a) < 1000000000 * Dv := by omega
  have hp := Int.mul_nonneg (Int.le_of_lt p) u0
  refine ⟨by change 0 ≤ nval (win R a (l + 2)) at w0; omega, ?_⟩
  rcases Int.lt_or_eq_of_le u0 with h2 | h2
  · exfalso
    have : (1000000000 : Int) ^ (l + 2) * 1 ≤ 1000000000 ^ (l + 2) * nval (R.drop (a + (l + 2))) := Int.mul_le_mul_of_nonneg_left (by omega) (Int.le_of_lt p)
    have e4 : (1000000000 : Int) ^ (l + 2) = 1000000000 * 1000000000 ^ (l + 1) := by rw [Int.pow_succ, Int.mul_comm]
    change 0 ≤ nval (win R a (l + 2)) at w0
    omega
  · exact h2.symm
theorem dinv_step {X Dv q : Int} {la nq l a : Nat} {R Q T D : List Int} (h : DInv X Dv la nq R Q (a + 1)) (ha : a + (l + 2) ≤ la + 1) (haq : a < nq) (hD : lok D = true) (hDl : D.length = l + 1) (hDv : nval D = Dv) (dpos : 0 < Dv)
    (hq : q = nval (win R a (l + 2)) / Dv) (hT : T.length = l + 2) (hTk : lok T = true) (hTv : nval T = nval (win R a (l + 2)) % Dv) :
    DInv X Dv la nq (laid R a T) (Q.set a q) a ∧ 0 ≤ q ∧ q < 1000000000 := by
  obtain ⟨hw, hz⟩ := dinv_win h ha hD hDl hDv
  have w0 := nval_nonneg (lok_take (lok_drop h.rk a) (l + 2))
  change 0 ≤ nval (win R a (l + 2)) at w0
  have q0 : 0 ≤ q := by rw [hq]; exact Int.ediv_nonneg w0 (Int.le_of_lt dpos)
  have q1 : q < 1000000000 := by rw [hq, Int.ediv_lt_iff_lt_mul dpos]; exact hw
  have hal : a + (l + 2) ≤ R.length := by rw [h.rl]; exact ha
  have eR := win_split hal
  have eR' := laid_split hal hT
  rw [hz, Int.mul_zero, Int.add_zero] at eR eR'
  have eQ : nval ((Q.set a q).drop a) = q + 1000000000 * nval (Q.drop (a + 1)) := by
    rw [nval_drop_step (List.getElem?_set_self (by rw [h.ql]; exact haq)), drop_set_above (by omega)]
  have hem := Int.emod_add_mul_ediv (nval (win R a (l + 2))) Dv
  rw [← hq, ← hTv] at hem
  refine ⟨⟨by rw [laid_length (by rw [hT]; exact hal)]; exact h.rl, laid_lok h.rk hTk, by rw [List.length_set]; exact h.ql, lok_set h.qk _ q0 q1, ?_, ?_⟩, q0, q1⟩
  · have hv := h.val
    rw [eR, ← hem, Int.pow_succ] at hv
    rw [eR', eQ, ← hv]
    obtain ⟨P, hP⟩ : ∃ P : Int, P = 1000000000 ^ a := ⟨_, rfl⟩
    rw [← hP]
    grind
  · rw [laid_drop (by omega), hT, nval_append, hT, hz, Int.mul_zero, Int.add_zero, hTv]
    exact Int.emod_lt_of_pos _ dpos
theorem dinv_end {x y f : Int} {la nq : Nat} {R Q : List Int} (h : DInv (f * x) (f * y) la nq R Q 0) (f0 : 0 < f) : nval Q = x / y ∧ nval R / f = x % y := by
  have hv := h.val
  have hlt := h.lt
  rw [List.drop_zero] at hv hlt
  have r0 := nval_nonneg h.rk
  obtain ⟨q, hq⟩ : ∃ q, q = nval Q := ⟨_, rfl⟩
  obtain ⟨r, hr⟩ : ∃ r, r = nval R := ⟨_, rfl⟩
  rw [← hq, ← hr] at hv ⊢
  rw [← hr] at r0 hlt
  have e : r = f * (x - q * y) := by
    have : q * (f * y) * 1000000000 ^ 0 + r = f * x := hv
    rw [Int.pow_zero, Int.mul_one] at this
    grind
  rw [e] at r0 hlt ⊢
  have a0 : 0 ≤ x - q * y := by
    rcases Int.lt_or_le (x - q * y) 0 with h | h
    · have : f * (x - q * y) ≤ f * (-1) := Int.mul_le_mul_of_nonneg_left (by omega) (Int.le_of_lt f0)
      omega
    · exact h
  have a1 : x - q * y < y := Int.lt_of_mul_lt_mul_left hlt (Int.le_of_lt f0)
  rw [Int.mul_ediv_cancel_left _ (by omega)]
  have hx : x = (x - q * y) + q * y := by omega
  constructor
  · rw [hx, Int.add_mul_ediv_right _ _ (by omega), Int.ediv_eq_zero_of_lt a0 a1]
    have : x - q * y + q * y - q * y = x - q * y := by omega
    omega
  · have h2 : x % y = ((x - q * y) + q * y) % y := by rw [← hx]
    rw [h2, Int.add_mul_emod_self_right, Int.emod_eq_of_lt a0 a1]
end Go.Proofs.Ytdolhanniiejfaa
/- The contract of nat.divide of long numbers. -/
namespace Go.Proofs.Ytdolhanniiejfaa
open Go.ChangeShapes Go.WideShapes Go.RowKit
set_option linter.unusedVariables false
set_option maxRecDepth 100000

theorem bjoin {w0 w1 w2 : World} (h : Below w0.heap.size w0 w1) (k : Below w1.heap.size w1 w2) : Below w0.heap.size w0 w2 := h.trans (k.mono h.size)

set_option maxHeartbeats 6400000 in
theorem divide_long (xs ys : List Int) (va vb : Value) (w : World) (l : Nat) (bt : Int) (ha : In w va xs) (hb : In w vb ys) (hx : nrm xs = true) (hy : nrm ys = true) (hlx : 2 < xs.length) (hlx2 : xs.length ≤ 1000) (hly : ys.length = l + 1) (hle : l + 1 ≤ xs.length)
    (hbt : ys[l]? = some bt) (hb0 : 0 < bt) :
    Calls Try.prog 70 #[va, vb] w (DivRes w xs ys) := by
  obtain ⟨A, c, rfl, hc, hm, hA⟩ := ha
  obtain ⟨B, d, rfl, hd, hn, hB⟩ := hb
  obtain ⟨nq, hnq⟩ : ∃ nq, nq + l = xs.length := ⟨xs.length - l, by omega⟩
  have hxk := nrm_lok hx
  have hyk := nrm_lok hy
  have bb := lok_at hyk hbt
  have fb := fac_bd hb0 bb.2
  obtain ⟨f, hf⟩ : ∃ f, 1000000000 / (bt + 1) = f := ⟨_, rfl⟩
  have hft : (1000000000 : Int).tdiv (bt + 1) = f := by rw [Int.tdiv_eq_ediv_of_nonneg (by omega), hf]
  rw [hf] at fb
  obtain ⟨f0, f1, f2⟩ := fb
  obtain ⟨b, offb, hBe, _, _, hcb⟩ := hB l bt hbt
  have hca : ∀ W, Below w.heap.size w W → Calls Try.prog 78 #[.slice A xs.length c, .int .i64 f] W
      fun e w' => e = .returned (.slice (some ⟨W.heap.size, 0, none⟩) (xs.length + 1) (xs.length + 1)) ∧ Row w' W.heap.size (addT (List.replicate (xs.length + 1) 0) xs f 0) ∧ Below W.heap.size W w' :=
    fun W hW => nat_times xs A c f 0 w.heap.size W (hA.below hW (Nat.le_refl _)) hW.size (by omega) hxk (by omega) f1
  have hcb2 : ∀ W, Below w.heap.size w W → Calls Try.prog 78 #[.slice B (l + 1) d, .int .i64 f] W
      fun e w' => e = .returned (.slice (some ⟨W.heap.size, 0, none⟩) (l + 2) (l + 2)) ∧ Row w' W.heap.size (addT (List.replicate (l + 2) 0) ys f 0) ∧ Below W.heap.size W w' := by
    intro W hW
    have h := nat_times ys B d f 0 w.heap.size W (hB.below hW (Nat.le_refl _)) hW.size (by omega) hyk (by omega) f1
    rw [hly] at h; exact h
  have HCA := Lib.hid hca
  have HCB := Lib.hid hcb2
  have HXK := Lib.hid hxk
  have HYK := Lib.hid hyk
  have HLY := Lib.hid hly
  have HBT := Lib.hid hbt
  have HNQ := Lib.hid hnq
  have HF2 := Lib.hid f2
  have h1 : decide ((xs.length : Int) < (l : Int) + 1) = false := decide_eq_false (by omega)
  have h2 : decide ((xs.length : Int) ≤ 2) = false := decide_eq_false (by omega)
  have m0 : ¬ bt + 1 = 0 := by omega
  have m1 : (bt + 1 == 0) = false := beq_false_of_ne m0
  have hw0 : Below w.heap.size w w := Below.refl _ _
  have HW0 := Lib.hid hw0
  have hw0 := HW0
  rw [hly]
  obtain ⟨b10, b11⟩ := bb
  subst hBe
  clear hA hB hm hn hx hy hxk hyk hca hcb2 hly hbt hf hnq f2
  go_enter Try.func70, Try.ntmps70
  go_wp2_with fail
  go_region_with (go_at_call 78; first | (with_reducible refine (HCA.out _ HW0.out.drew).mono ?_; rintro e w1 ⟨rfl, hr1, hb1⟩) | (with_reducible refine (HCB.out _ (bjoin HW0.out.drew hb1)).mono ?_; rintro e w2 ⟨rfl, hr2, hb2⟩))
  have HR1 := Lib.hid (show Row w1 w.heap.size (addT (List.replicate (xs.length + 1) 0) xs f 0) from hr1)
  have HR2 := Lib.hid (show Row w2 w1.heap.size (addT (List.replicate (l + 2) 0) ys f 0) from hr2)
  have HB1 := Lib.hid (show Below w.heap.size w w1 from hw0.out.drew.trans hb1)
  have HB2 := Lib.hid (show Below w1.heap.size w1 w2 from hb2)
  clear hr1 hr2 hb1 hb2
  obtain ⟨R0, hR0⟩ : ∃ R0, R0 = addT (List.replicate (xs.length + 1) 0) xs f 0 := ⟨_, rfl⟩
  obtain ⟨D0, hD0⟩ : ∃ D0, D0 = addT (List.replicate (l + 2) 0) ys f 0 := ⟨_, rfl⟩
  rw [← hR0] at HR1
  rw [← hD0] at HR2
  have hrok := rest_ok HXK.out (by omega) f1
  have hdok := rest_ok HYK.out (by omega) f1
  rw [HLY.out] at hdok
  rw [← hR0] at hrok
  have hdok' : lok D0 = true ∧ nval D0 = f * nval ys := by rw [hD0]; exact hdok
  have hRl : R0.length = xs.length + 1 := by rw [hR0, addT_length]; simp
  have hDl : D0.length = l + 2 := by rw [hD0, addT_length]; simp
  have hdv := divisor_ok HYK.out HLY.out HBT.out hb0 f0 HF2.out hdok'.1 hdok'.2 hDl
  obtain ⟨hv1, hv2, hv3, dt, hv4, hv5⟩ := hdv
  have ypos : 0 < f * nval ys := Int.mul_pos (by omega) (by have := (top_ge HYK.out HLY.out HBT.out hb0).1; have := pow_pos' l; omega)
  have hds := dinv_start HXK.out HYK.out HLY.out HBT.out hb0 f0 hRl hrok.1 hrok.2 HNQ.out
  have i12 : w.heap.size < w1.heap.size := HR1.out.lt
  have i23 : w1.heap.size < w2.heap.size := HR2.out.lt
  have HR1' := Lib.hid (HR1.out.below HB2.out i12)
  have HB02 := Lib.hid (bjoin HB1.out HB2.out)
  have HDS := Lib.hid hds
  have V1 := Lib.hid hv1
  have V2 := Lib.hid hv2
  have V3 := Lib.hid hv3
  have V4 := Lib.hid hv4
  have V5 := Lib.hid hv5
  have YP := Lib.hid ypos
  have I12 := Lib.hid i12
  have I23 := Lib.hid i23
  have HRL := Lib.hid hRl
  have hnql : (xs.length : Int) - ((l : Int) + 1) + 1 = (nq : Int) := by have := HNQ.out; omega
  have hnq1 : nq ≤ 1000 := by have := HNQ.out; omega
  obtain ⟨i0, hi0, hz0, hz1, hz2⟩ := info_parts info_int
  clear hR0 hD0 hrok hdok hdok' hRl hDl hv1 hv2 hv3 hv4 hv5 ypos hds i12 i23 hcb hw0
  go_wp2_with (first
    | (at_make; refine wpList_make_full _ rfl _ _ 33 rfl w2.heap.size 3 i0 (.int .i64 0) 1 Try.underlying33 hi0 hz0 hz1 .i64 .i64 _ _ nq rfl rfl (by omega) (by omega) (by rw [hz2]; omega) (by unfold maxLen; omega) (Nat.le_refl _) ?_; intro w3 hown hgrow; refine Hid.out ?_)
    | fail)
  refine Lib.hid ?_
  have HQ0 := Lib.hid (show Row w3 w2.heap.size (List.replicate nq 0) from row_of_heap (heap_of_made hown))
  have hb3 : Below w2.heap.size w2 w3 := (Below.refl _ _).grown hgrow (Nat.le_refl _) (fun k hk => by cases hk)
  have HR13 := Lib.hid (HR1'.out.below hb3 (Nat.lt_trans I12.out I23.out))
  have HR23 := Lib.hid (HR2.out.below hb3 I23.out)
  have HB03 := Lib.hid (bjoin HB02.out hb3)
  clear hown hgrow hb3 hnql
  go_wp2_with fail
  go_loopw [62] (fun iv wr => ∃ (k : Nat) (R Q : List Int), k ≤ nq ∧ iv = .int .i64 k ∧ DInv (f * nval xs) (f * nval ys) xs.length nq R Q (nq - k) ∧ Row wr w.heap.size R ∧ Row wr w1.heap.size D0 ∧ Row wr w2.heap.size Q ∧ Below w.heap.size w wr) (fun iv _ => nq - (intOf iv).toNat)
  case atStart => exact ⟨0, R0, _, Nat.zero_le _, rfl, HDS.out, HR13.out, HR23.out, HQ0.out, HB03.out⟩
  case round =>
    obtain ⟨k, R, Q, hk, rfl, hinv, hrr, hrd, hrq, hbel⟩ := hrel
    have HI := Lib.hid hinv
    have HRR := Lib.hid hrr
    have HRD := Lib.hid hrd
    have HRQ := Lib.hid hrq
    have HBL := Lib.hid hbel
    have hql := hinv.ql
    have hrl := hinv.rl
    clear hinv hrr hrd hrq hbel
    rcases Nat.lt_or_ge k nq with hlt | hge
    · obtain ⟨a, hae⟩ : ∃ a, a = nq - 1 - k := ⟨_, rfl⟩
      have ea : nq - k = a + 1 := by omega
      have hi := HI.out
      rw [ea] at hi
      have haq : a < nq := by omega
      have hal : a + (l + 2) ≤ xs.length + 1 := by have := HNQ.out; omega
      have hwin := dinv_win hi hal V2.out V1.out V3.out
      have hwl : (win R a (l + 2)).length = l + 2 := win_length (by rw [hrl]; exact hal)
      have hto := fun (W : World) (cap : Nat) (hr : Row W w.heap.size R) (hd : Row W w1.heap.size D0) =>
        nat_takeOff R (win R a (l + 2)) (D0.take (l + 1)) l w.heap.size a cap (l + 2) w1.heap.size (w1.heap.size + 1) (some ⟨w1.heap.size, 0, none⟩) W dt hr (by rw [hrl]; exact hal) (fun j hj => win_at (by rw [hrl]; exact hal) j hj)
          ((hd.take (l + 1)).holds (fun k z hz => by rw [Nat.zero_add]; exact hz) (Nat.le_refl _) (Nat.lt_succ_self _)) (Or.inl I12.out) hwl V1.out (by omega) (lok_take (lok_drop hi.rk a) _) V2.out V4.out V5.out (by rw [V3.out]; exact hwin.1)
      obtain ⟨S, hS⟩ : ∃ S, S = win R a (l + 2) := ⟨_, rfl⟩
      rw [V3.out, ← hS] at hto
      have HTO := Lib.hid hto
      have HS := Lib.hid hS
      have HI2 := Lib.hid hi
      have HE := Lib.hid hae
      obtain ⟨qv, hqv⟩ : ∃ qv, qv = Q.getD a 0 := ⟨_, rfl⟩
      have HQV := Lib.hid hqv
      have HQL := Lib.hid hql
      have HRL2 := Lib.hid hrl
      have e1 : (nq : Int) - 1 - k = (a : Int) := by omega
      have k1 : (a : Int) ≤ (a : Int) + ((l : Int) + 1) + 1 := by omega
      have k2 : (a : Int) + ((l : Int) + 1) + 1 ≤ (xs.length : Int) + 1 := by omega
      have k3 : ¬ xs.length + 1 = a := by omega
      have k4 : ((a : Int) + ((l : Int) + 1) + 1).toNat - a = l + 2 := by omega
      clear hae ea hi hwin hwl hto hS hqv hql hrl
      go_wp2_with fail
      refine (HTO.out wr _ HRR.out HRD.out).mono ?_
      rintro e w4 ⟨rfl, T, hT, hTk, hTv, hr4, ho4⟩
      have hstep := dinv_step HI2.out hal haq V2.out V1.out V3.out YP.out (by rw [← HS.out]) hT hTk (by rw [← HS.out]; exact hTv)
      obtain ⟨qn, hqn⟩ : ∃ qn, qn = nval S / (f * nval ys) := ⟨_, rfl⟩
      rw [← hqn] at hstep ⊢
      have hrd4 : Row w4 w1.heap.size D0 := ho4.row HRD.out (by have := I12.out; omega)
      have hrq4 : Row w4 w2.heap.size Q := ho4.row HRQ.out (by have := I12.out; have := I23.out; omega)
      have hcell := hrq4.cell (i := a) (z := qv) (by rw [HQV.out, List.getD_eq_getElem?_getD, List.getElem?_eq_getElem (by rw [HQL.out]; exact haq)]; rfl)
      have hfr := hrq4.frozen a
      have HST := Lib.hid hstep.1
      have HRR5 := Lib.hid (hr4.other (p := ⟨w2.heap.size, a, none⟩) (by show w2.heap.size ≠ w.heap.size; have := I12.out; have := I23.out; omega) (.int .i64 qn))
      have HRD5 := Lib.hid (hrd4.other (p := ⟨w2.heap.size, a, none⟩) (by show w2.heap.size ≠ w1.heap.size; have := I23.out; omega) (.int .i64 qn))
      have HRQ5 := Lib.hid (hrq4.store a qn)
      have HBL5 := Lib.hid ((HBL.out.trans (ho4.toBelow (Nat.le_refl _))).setCell (p := ⟨w2.heap.size, a, none⟩) (by show w.heap.size ≤ w2.heap.size; have := I12.out; have := I23.out; omega) (.int .i64 qn))
      have q0 := hstep.2.1
      have q1 := hstep.2.2
      clear hT hTk hTv hr4 ho4 hstep hrd4 hrq4 hqn
      go_wp2_with fail
      go_roundw
      case rel =>
        have e2 : nq - (k + 1) = a := by have := HE.out; omega
        exact ⟨k + 1, _, _, by omega, by go_num, by rw [e2]; exact HST.out, HRR5.out, HRD5.out, HRQ5.out, HBL5.out⟩
      case measure => simp [intOf]; omega
    · obtain rfl : k = nq := by omega
      have hi := HI.out
      rw [Nat.sub_self] at hi
      have hend := dinv_end hi (by omega)
      have hQk := hi.qk
      have hRk := hi.rk
      have i03 : w.heap.size ≤ w2.heap.size := by have := I12.out; have := I23.out; omega
      have htr := nat_trimmed Q (some ⟨w2.heap.size, 0, none⟩) k w2.heap.size wr.heap.size wr (HRQ.out.holds (fun k z hz => by rw [Nat.zero_add]; exact hz) (Nat.le_refl _) HRQ.out.lt) (by omega) (by unfold maxLen; omega)
      rw [hql] at htr
      have hdd := nat_divided R (some ⟨w.heap.size, 0, none⟩) (xs.length + 1) w.heap.size wr.heap.size f wr (HRR.out.holds (fun k z hz => by rw [Nat.zero_add]; exact hz) (Nat.le_refl _) HRR.out.lt) (Nat.le_refl _) hRk (by omega) (by omega) f1
      rw [hrl] at hdd
      have hsq : Sl wr w.heap.size wr.heap.size (.slice (some ⟨w2.heap.size, 0, none⟩) (trimL Q).length k) (limbs ((nval xs).toNat / (nval ys).toNat)) := by
        have e : limbs ((nval xs).toNat / (nval ys).toNat) = trimL Q := by
          rw [trimL_limbs hQk, hend.1]
          congr 1
          have x0 := nval_nonneg HXK.out
          have y0 := nval_nonneg HYK.out
          have e1 : nval xs = ((nval xs).toNat : Int) := by omega
          have e2 : nval ys = ((nval ys).toNat : Int) := by omega
          rw [e1, e2]; exact (Int.toNat_natCast _).symm
        rw [e]
        have := trimL_len_le Q
        exact ⟨_, k, rfl, by omega, by unfold maxLen; omega, by rw [← trimL_eq_take Q]; exact (HRQ.out.take _).holds (fun k z hz => by rw [Nat.zero_add]; exact hz) i03 HRQ.out.lt⟩
      have HTR := Lib.hid htr
      have HDD := Lib.hid hdd
      have HSQ := Lib.hid hsq
      have HEND := Lib.hid hend.2
      clear hi hend hQk hRk i03 htr hdd hsq
      go_wp2_with fail
      refine HTR.out.mono ?_
      rintro e w4 ⟨rfl, rfl⟩
      go_wp2_with fail
      refine HDD.out.mono ?_
      rintro e w5 ⟨rfl, Q2, hQ2, hQ2k, hQ2v, hrow, hb5⟩
      have htr2 := nat_trimmed Q2 (some ⟨wr.heap.size, 0, none⟩) (xs.length + 1) wr.heap.size w5.heap.size w5 (hrow.holds (fun k z hz => by rw [Nat.zero_add]; exact hz) (Nat.le_refl _) hrow.lt) (by omega) (by unfold maxLen; omega)
      rw [hQ2] at htr2
      have hsr : Sl w5 w.heap.size w5.heap.size (.slice (some ⟨wr.heap.size, 0, none⟩) (trimL Q2).length (xs.length + 1)) (limbs ((nval xs).toNat % (nval ys).toNat)) := by
        have e : limbs ((nval xs).toNat % (nval ys).toNat) = trimL Q2 := by
          rw [trimL_limbs hQ2k, hQ2v, HEND.out]
          congr 1
          have x0 := nval_nonneg HXK.out
          have y0 := nval_nonneg HYK.out
          have e1 : nval xs = ((nval xs).toNat : Int) := by omega
          have e2 : nval ys = ((nval ys).toNat : Int) := by omega
          rw [e1, e2]; exact (Int.toNat_natCast _).symm
        rw [e]
        have := trimL_len_le Q2
        exact ⟨_, _, rfl, by omega, by unfold maxLen; omega, by rw [← trimL_eq_take Q2]; exact (hrow.take _).holds (fun k z hz => by rw [Nat.zero_add]; exact hz) HBL.out.size hrow.lt⟩
      have HTR2 := Lib.hid htr2
      have HSR := Lib.hid hsr
      have HSQ5 := Lib.hid ((HSQ.out.below hb5 (Nat.le_refl _)).more (Nat.le_refl _) hb5.size)
      have HB5 := Lib.hid (bjoin HBL.out hb5)
      clear hQ2 hQ2k hQ2v hrow hb5 htr2 hsr
      go_wp2_with fail
      refine HTR2.out.mono ?_
      rintro e w6 ⟨rfl, rfl⟩
      go_wp2_with fail
      go_ret2
      exact ⟨_, _, rfl, HSQ5.out, HSR.out, HB5.out⟩
end Go.Proofs.Ytdolhanniiejfaa
/- The contract of nat.DivMod; the walk of NatDivides. -/
namespace Go.Proofs.Ytdolhanniiejfaa
open Go.ChangeShapes Go.WideShapes Go.RowKit
set_option linter.unusedVariables false
set_option maxRecDepth 100000

theorem top_pos {ys : List Int} {l : Nat} {b : Int} (hy : nrm ys = true) (hl : ys.length = l + 1) (hb : ys[l]? = some b) : 0 < b := by
  have h := nrm_lok hy
  have b0 := lok_at h hb
  rcases Int.lt_or_eq_of_le b0.1 with h1 | h1
  · exact h1
  · exfalso
    subst h1
    have : ys.getLast? = some 0 := by rw [List.getLast?_eq_getElem?, hl]; exact hb
    simp [nrm, this] at hy
theorem nat_divide (xs ys : List Int) (va vb : Value) (w : World) (ha : In w va xs) (hb : In w vb ys) (hx : nrm xs = true) (hy : nrm ys = true) (hlx : xs.length ≤ 1000) (hp : 0 < ys.length) :
    Calls Try.prog 70 #[va, vb] w (DivRes w xs ys) := by
  rcases Nat.lt_or_ge xs.length ys.length with h | h
  · exact divide_less xs ys va vb w ha hb hx hy (by omega) h
  · rcases Nat.lt_or_ge 2 xs.length with h2 | h2
    · obtain ⟨l, hl⟩ : ∃ l, ys.length = l + 1 := ⟨ys.length - 1, by omega⟩
      obtain ⟨b, hb'⟩ : ∃ b, ys[l]? = some b := ⟨_, List.getElem?_eq_getElem (by omega)⟩
      exact divide_long xs ys va vb w l b ha hb hx hy h2 hlx hl (by omega) hb' (top_pos hy hl hb')
    · exact divide_two xs ys va vb w ha hb hx hy h2 hp h
theorem nat_DivMod (xs ys : List Int) (va vb : Value) (w : World) (ha : In w va xs) (hb : In w vb ys) :
    Calls Try.prog 49 #[va, vb] w (DmRes w xs ys) :=
  DivMod_of xs ys va vb w ha hb fun h1 h2 h3 => nat_divide xs ys va vb w ha hb (valid_nrm h1) (valid_nrm h2) (by have := valid_len h1; omega) h3

theorem valid_lt {xs : List Int} (h : validB xs = true) : (nval xs).toNat < 1000000000 ^ 48 := limbs_len_le.mp (by rw [← nrm_limbs (valid_nrm h)]; exact valid_len h)
theorem valid_limbs {n : Nat} (h : n < 1000000000 ^ 48) : validB (limbs n) = true := validB_iff.mpr ⟨limbs_len_le.mpr h, nrm_of_limbs _⟩
theorem fit_ok {n : Nat} (h : n < 1000000000 ^ 48) : fitN n = n ∧ fitE n = 0 := ⟨if_pos h, if_pos h⟩

/-- What the law's calls return, of valid numbers, the second not zero. -/
theorem dvd_facts {xs ys : List Int} (hx : validB xs = true) (hy : validB ys = true) (hp : 0 < ys.length) :
    divE xs ys = 0 ∧ mulV (limbs (quoN xs ys)) ys = quoN xs ys * (nval ys).toNat ∧ mulE (limbs (quoN xs ys)) ys = 0 ∧ mulV ys (limbs (quoN xs ys)) = quoN xs ys * (nval ys).toNat ∧ mulE ys (limbs (quoN xs ys)) = 0 ∧
    limbs (addV (limbs (quoN xs ys * (nval ys).toNat)) (limbs (remN xs ys))) = xs ∧ addE (limbs (quoN xs ys * (nval ys).toNat)) (limbs (remN xs ys)) = 0 ∧
    cmpV (limbs (remN xs ys)) ys = -1 ∧ formE (limbs (remN xs ys)) ys = 0 := by
  have he : ys.isEmpty = false := by cases ys with
    | nil => simp at hp
    | cons a l => rfl
  have hb : both xs ys = true := by rw [both, hx, hy]; rfl
  have hok : divOk xs ys = true := by rw [divOk, hb, he]; rfl
  have eq : quoN xs ys = (nval xs).toNat / (nval ys).toNat := by rw [quoN, hok, if_pos rfl]
  have er : remN xs ys = (nval xs).toNat % (nval ys).toNat := by rw [remN, hok, if_pos rfl]
  have yp := nval_pos (valid_nrm hy) hp
  have x0 := nval_nonneg (valid_lok hx)
  have hxl := valid_lt hx
  have hyl := valid_lt hy
  have M0 : 0 < (nval ys).toNat := by omega
  have hq1 : quoN xs ys ≤ (nval xs).toNat := by rw [eq]; exact Nat.div_le_self _ _
  have hqm : quoN xs ys * (nval ys).toNat ≤ (nval xs).toNat := by rw [eq]; exact Nat.div_mul_le_self _ _
  have hr1 : remN xs ys < (nval ys).toNat := by rw [er]; exact Nat.mod_lt _ M0
  have hsum : quoN xs ys * (nval ys).toNat + remN xs ys = (nval xs).toNat := by rw [eq, er, Nat.mul_comm]; exact Nat.div_add_mod _ _
  have vq : validB (limbs (quoN xs ys)) = true := valid_limbs (Nat.lt_of_le_of_lt hq1 hxl)
  have vr : validB (limbs (remN xs ys)) = true := valid_limbs (Nat.lt_trans hr1 hyl)
  have vp : validB (limbs (quoN xs ys * (nval ys).toNat)) = true := valid_limbs (Nat.lt_of_le_of_lt hqm hxl)
  have fp := fit_ok (Nat.lt_of_le_of_lt hqm hxl)
  have ey : nval ys = ((nval ys).toNat : Int) := by omega
  have p1 : (nval (limbs (quoN xs ys)) * nval ys).toNat = quoN xs ys * (nval ys).toNat := by rw [nval_limbs]; conv => lhs; rw [ey, ← Int.natCast_mul, Int.toNat_natCast]
  have p2 : (nval ys * nval (limbs (quoN xs ys))).toNat = quoN xs ys * (nval ys).toNat := by rw [Int.mul_comm]; exact p1
  have p3 : (nval (limbs (quoN xs ys * (nval ys).toNat)) + nval (limbs (remN xs ys))).toNat = (nval xs).toNat := by rw [nval_limbs, nval_limbs]; omega
  have fx := fit_ok hxl
  refine ⟨by rw [divE, hb, he]; rfl, ?_, ?_, ?_, ?_, ?_, ?_, ?_, ?_⟩
  · rw [mulV, both, vq, hy, p1]; exact fp.1
  · rw [mulE, both, vq, hy, p1]; exact fp.2
  · rw [mulV, both, vq, hy, p2]; exact fp.1
  · rw [mulE, both, vq, hy, p2]; exact fp.2
  · rw [addV, both, vp, vr, p3]
    show limbs (fitN (nval xs).toNat) = xs
    rw [fx.1]; exact (nrm_limbs (valid_nrm hx)).symm
  · rw [addE, both, vp, vr, p3]; exact fx.2
  · rw [cmpV, both, vr, hy]
    show cmpI (nval (limbs (remN xs ys))) (nval ys) = -1
    rw [nval_limbs]; exact cmpI_lt (by omega)
  · rw [formE, both, vr, hy]; rfl
/-- Sub undoes Add. -/
theorem undo_facts {xs ys : List Int} (hx : validB xs = true) (hy : validB ys = true) :
    addE xs ys = 2 ∨ (addE xs ys = 0 ∧ subE (limbs (addV xs ys)) ys = 0 ∧ limbs (subV (limbs (addV xs ys)) ys) = xs) := by
  have hb : both xs ys = true := by rw [both, hx, hy]; rfl
  have x0 := nval_nonneg (valid_lok hx)
  have y0 := nval_nonneg (valid_lok hy)
  by_cases h : (nval xs + nval ys).toNat < 1000000000 ^ 48
  · right
    have f := fit_ok h
    have ea : addV xs ys = (nval xs + nval ys).toNat := by rw [addV, hb, if_pos rfl]; exact f.1
    have vt : validB (limbs (addV xs ys)) = true := by rw [ea]; exact valid_limbs h
    have hv : nval (limbs (addV xs ys)) = nval xs + nval ys := by rw [nval_limbs, ea]; omega
    have e1 : (nval xs + nval ys - nval ys).toNat = (nval xs).toNat := by omega
    have fx := fit_ok (valid_lt hx)
    refine ⟨by rw [addE, hb, if_pos rfl]; exact f.2, ?_, ?_⟩
    · rw [subE, both, vt, hy, hv]
      show (if nval xs + nval ys < nval ys then (1 : Int) else fitE (nval xs + nval ys - nval ys).toNat) = 0
      rw [if_neg (by omega), e1]; exact fx.2
    · rw [subV, both, vt, hy, hv]
      show limbs (if nval xs + nval ys < nval ys then 0 else fitN (nval xs + nval ys - nval ys).toNat) = xs
      rw [if_neg (by omega), e1, fx.1]; exact (nrm_limbs (valid_nrm hx)).symm
  · left; rw [addE, hb, if_pos rfl]; exact if_neg h

end Go.Proofs.Ytdolhanniiejfaa
/- Contracts of digit and DivMod of the reference. -/
namespace Go.Proofs.Ytdolhanniiejfaa
open Go.ChangeShapes Go.WideShapes Go.RowKit
set_option linter.unusedVariables false
set_option maxRecDepth 100000

theorem cmp_le {x y : Int} (h : x ≤ y) : cmpI x y ≤ 0 := by
  rcases Int.lt_or_eq_of_le h with h | h
  · rw [cmpI_lt h]; decide
  · rw [h, cmpI_eq]; decide
theorem prod_len {ys : List Int} {m : Int} (hy : lok ys = true) (hl : ys.length ≤ 100) (m0 : 0 ≤ m) (m1 : m < 1000000000) : (limbs (nval ys * m).toNat).length ≤ 200 := by
  refine limbs_len_le.mpr ?_
  have a := nval_lt hy
  have a0 := nval_nonneg hy
  have h1 : nval ys * m ≤ nval ys * 1000000000 := Int.mul_le_mul_of_nonneg_left (by omega) a0
  have h2 : (1000000000 : Int) ^ (ys.length + 1) ≤ 1000000000 ^ 200 := pow_le_pow' (by omega)
  rw [Int.pow_succ] at h2
  have h3 : nval ys * m < ((1000000000 ^ 200 : Nat) : Int) := by
    rw [Int.natCast_pow]
    have : ((1000000000 : Nat) : Int) = 1000000000 := rfl
    rw [this]
    refine Int.lt_of_le_of_lt h1 (Int.lt_of_lt_of_le ?_ h2)
    exact Int.mul_lt_mul_of_pos_right a (by decide)
  exact (Int.toNat_lt (Int.mul_nonneg a0 m0)).mpr h3

theorem own_lit (w : World) (z : Int) : (w.alloc (.cells #[.int .i64 z] 3)).ownsRow w.heap.size 3 1 (.slice (some ⟨w.heap.size, 0, none⟩) 1 1) ([z] : List Int).length (([z] : List Int).map (Value.int .i64)) :=
  World.ownsRow_lit (base := w.heap.size) (e := 3) (size := 1) w #[.int .i64 z] 1 (Nat.le_refl _) (by unfold maxLen; omega) rfl
/-- The state of the reference's division, t limbs to come. -/
structure RInv (X Y : Int) (Q : List Int) (n : Nat) (xs : List Int) (t : Nat) (r : Nat) : Prop where
  ql : Q.length = n
  qk : lok Q = true
  quo : nval (Q.drop t) = nval (xs.drop t) / Y
  rem : (r : Int) = nval (xs.drop t) % Y
theorem rinv_step {X Y q : Int} {Q xs : List Int} {n a r : Nat} {z : Int} (h : RInv X Y Q n xs (a + 1) r) (hz : xs[a]? = some z) (z0 : 0 ≤ z) (z1 : z < 1000000000) (hk : lok xs = true) (ha : a < n) (yp : 0 < Y)
    (hq : q = (z + 1000000000 * r) / Y) : RInv X Y (Q.set a q) n xs a ((z + 1000000000 * r) % Y).toNat ∧ 0 ≤ q ∧ q < 1000000000 := by
  have r0 : (r : Int) < Y := by rw [h.rem]; exact Int.emod_lt_of_pos _ yp
  have hnn : 0 ≤ z + 1000000000 * (r : Int) := by omega
  have q0 : 0 ≤ q := by rw [hq]; exact Int.ediv_nonneg hnn (Int.le_of_lt yp)
  have q1 : q < 1000000000 := by
    rw [hq, Int.ediv_lt_iff_lt_mul yp]
    have : 1000000000 * ((r : Int) + 1) ≤ 1000000000 * Y := Int.mul_le_mul_of_nonneg_left (by omega) (by omega)
    omega
  have eV : nval (xs.drop a) = (z + 1000000000 * r) + (1000000000 * nval (Q.drop (a + 1))) * Y := by
    rw [nval_drop_step hz]
    have e := Int.emod_add_mul_ediv (nval (xs.drop (a + 1))) Y
    rw [← h.rem, ← h.quo] at e
    rw [← e]
    grind
  have m0 : 0 ≤ (z + 1000000000 * (r : Int)) % Y := Int.emod_nonneg _ (by omega)
  refine ⟨⟨by rw [List.length_set]; exact h.ql, lok_set h.qk _ q0 q1, ?_, ?_⟩, q0, q1⟩
  · rw [nval_drop_step (List.getElem?_set_self (by rw [h.ql]; exact ha)), drop_set_above (by omega), eV, Int.add_mul_ediv_right _ _ (by omega), hq]
  · rw [eV, Int.add_mul_emod_self_right]; omega

/-- The new remainder's list: one limb more, or none. -/
theorem limbs_cons {z : Int} {r : Nat} (z0 : 0 ≤ z) (z1 : z < 1000000000) (h : ¬ (z = 0 ∧ r = 0)) : limbs (z + 1000000000 * r).toNat = z :: limbs r := by
  have e : (z + 1000000000 * (r : Int)).toNat = z.toNat + 1000000000 * r := by omega
  rw [e, limbs_step z0 z1 (by omega)]
theorem last_ne {z : Int} {r : Nat} (z0 : 0 ≤ z) (z1 : z < 1000000000) (h : ¬ (z = 0 ∧ r = 0)) : ∃ y, (z :: limbs r)[(limbs r).length]? = some y ∧ y ≠ 0 := by
  have hn := nrm_of_limbs (z + 1000000000 * r).toNat
  rw [limbs_cons z0 z1 h] at hn
  obtain ⟨y, hy⟩ : ∃ y, (z :: limbs r)[(limbs r).length]? = some y := ⟨_, List.getElem?_eq_getElem (by simp)⟩
  refine ⟨y, hy, ?_⟩
  rintro rfl
  have : (z :: limbs r).getLast? = some 0 := by rw [List.getLast?_eq_getElem?]; simpa using hy
  simp [nrm, this] at hn
end Go.Proofs.Ytdolhanniiejfaa
/- The contract of DivMod of the reference. -/
namespace Go.Proofs.Ytdolhanniiejfaa
open Go.ChangeShapes Go.WideShapes Go.RowKit
set_option linter.unusedVariables false
set_option maxRecDepth 100000

def DmIn (w : World) (xs ys : List Int) (e : Ending) (w' : World) : Prop :=
  ∃ vq vr, e = .returned (.tuple #[vq, vr, .int .i64 (divE xs ys)]) ∧ In w' vq (limbs (quoN xs ys)) ∧ In w' vr (limbs (remN xs ys)) ∧ Below w.heap.size w w'
theorem DmIn.none {w w' : World} {xs ys : List Int} {k : Int} {e : Ending} (hq : divOk xs ys = false) (hk : divE xs ys = k) (h : e = .returned (.tuple #[.slice none 0 0, .slice none 0 0, .int .i64 k])) (hb : Below w.heap.size w w') : DmIn w xs ys e w' := by
  subst hk h
  refine ⟨_, _, rfl, ?_, ?_, hb⟩
  · rw [quoN, hq]; exact (by show In _ _ (limbs 0); rw [limbs_zero]; exact In.nil _)
  · rw [remN, hq]; exact (by show In _ _ (limbs 0); rw [limbs_zero]; exact In.nil _)
theorem append_prep {wr w5 : World} {z : Int} {L : List Int} {v' : Value} (hown : w5.ownsRow wr.heap.size 3 1 v' ([z] ++ L).length (([z] ++ L).map (Value.int .i64))) (hgrow : (wr.alloc (.cells #[.int .i64 z] 3)).grownBy w5 (some wr.heap.size)) :
    ∃ g cap, v' = .slice (some ⟨g, 0, none⟩) (L.length + 1) cap ∧ wr.heap.size ≤ g ∧ Row w5 g (z :: L) ∧ In w5 v' (z :: L) ∧ Below wr.heap.size wr w5 := by
  have hin := (sl_of_owns hown).toIn
  rcases row_of_owns hown with ⟨_, h⟩ | ⟨g, cap, h1, h2, h3, h4, h5⟩
  · simp at h
  · refine ⟨g, cap, ?_, h2, h5, hin, (below_alloc _ _).grown hgrow (by simp) (fun k hk => by simp at hk; omega)⟩
    rw [h1]; simp

theorem In.setCell {w : World} {g off n c : Nat} {zs : List Int} (h : In w (.slice (some ⟨g, off, none⟩) n c) zs) {p : Addr} (hp : p.block ≠ g) (u : Value) : In (w.setCell p u) (.slice (some ⟨g, off, none⟩) n c) zs := by
  obtain ⟨A, c', e, h1, h2, h3⟩ := h
  cases e
  refine ⟨_, _, rfl, h1, h2, fun k z hz => ?_⟩
  obtain ⟨b, off', hA, hlo, hhi, hc⟩ := h3 k z hz
  cases hA
  exact ⟨g, off, rfl, ⟨Nat.zero_le _, Or.inl rfl⟩, by simpa [World.setCell] using hhi, (World.cell?_of_block (w := w) (a := ⟨g, off + k, none⟩) (Below.heap_setCell w p u g (fun e => hp e.symm))).trans hc⟩
end Go.Proofs.Ytdolhanniiejfaa
/- The contract of DivMod of the reference, for every input; the walk of NatQuotients. -/
namespace Go.Proofs.Ytdolhanniiejfaa
open Go.ChangeShapes Go.WideShapes Go.RowKit
set_option linter.unusedVariables false
set_option maxRecDepth 100000

end Go.Proofs.Ytdolhanniiejfaa
/- Lehmer's steps: the arithmetic. No walk. -/
namespace Go.Proofs.Ytdolhanniiejfaa
open Go.ChangeShapes Go.WideShapes Go.RowKit
set_option linter.unusedVariables false
set_option maxRecDepth 100000

/-- The steps of Euclid's algorithm that two leading limbs foresee: (a, b; c, d) from (X, Y); u, v: what the leading limbs have become. -/
structure LInv (u0 v0 X Y : Int) (a b c d u v : Int) : Prop where
  eu : u = a * u0 + b * v0
  ev : v = c * u0 + d * v0
  sg : (a * d - b * c = 1 ∧ 0 ≤ a ∧ b ≤ 0 ∧ c ≤ 0 ∧ 0 ≤ d) ∨ (a * d - b * c = -1 ∧ a ≤ 0 ∧ 0 ≤ b ∧ 0 ≤ c ∧ d ≤ 0)
  bd : -1000000000 < a ∧ a < 1000000000 ∧ -1000000000 < b ∧ b < 1000000000 ∧ -1000000000 < c ∧ c < 1000000000 ∧ -1000000000 < d ∧ d < 1000000000
  nn : 0 ≤ u ∧ 0 ≤ v
  gc : Int.gcd (a * X + b * Y) (c * X + d * Y) = Int.gcd X Y
  st : (a = 1 ∧ b = 0 ∧ c = 0 ∧ d = 1) ∨ (1000000000 ≤ u ∧ v < u ∧ 0 ≤ c * X + d * Y ∧ c * X + d * Y < a * X + b * Y ∧ a * X + b * Y ≤ Y)
theorem linv_start {u0 v0 X Y : Int} (hu : 0 ≤ u0) (hv : 0 ≤ v0) : LInv u0 v0 X Y 1 0 0 1 u0 v0 :=
  ⟨by omega, by omega, Or.inl ⟨by omega, by omega, by omega, by omega, by omega⟩, by omega, ⟨hu, hv⟩, by simp, Or.inl ⟨rfl, rfl, rfl, rfl⟩⟩
theorem quo_le {x y m m' : Int} (hx : 0 ≤ x) (hxy : x ≤ y) (hm : 0 < m') (hmm : m' ≤ m) : x / m ≤ y / m' := by
  rw [Int.le_ediv_iff_mul_le hm]
  have h1 : x / m * m ≤ x := Int.ediv_mul_le _ (by omega)
  have h0 : 0 ≤ x / m := Int.ediv_nonneg hx (by omega)
  have h2 : x / m * m' ≤ x / m * m := Int.mul_le_mul_of_nonneg_left hmm h0
  omega
/-- The test: then it is the quotient of u and v. -/
theorem linv_quo {u0 v0 X Y a b c d u v q : Int} (h : LInv u0 v0 X Y a b c d u v) (hv : 1000000000 ≤ v) (h1 : q = (u + a) / (v + c)) (h2 : q = (u + b) / (v + d)) : q = u / v ∧ 0 ≤ q := by
  have bd := h.bd
  have nn := h.nn
  have hub : 0 ≤ u + b ∧ 0 ≤ u + a := by
    rcases h.st with ⟨rfl, rfl, rfl, rfl⟩ | st
    · omega
    · omega
  rcases h.sg with sg | sg
  · have e1 : (u + b) / (v + d) ≤ u / v := quo_le hub.1 (by omega) (by omega) (by omega)
    have e2 : u / v ≤ (u + a) / (v + c) := quo_le nn.1 (by omega) (by omega) (by omega)
    have e3 : 0 ≤ u / v := Int.ediv_nonneg nn.1 nn.2
    omega
  · have e1 : (u + a) / (v + c) ≤ u / v := quo_le hub.2 (by omega) (by omega) (by omega)
    have e2 : u / v ≤ (u + b) / (v + d) := quo_le nn.1 (by omega) (by omega) (by omega)
    have e3 : 0 ≤ u / v := Int.ediv_nonneg nn.1 nn.2
    omega
theorem le_mul {a x K : Int} (ha : 0 ≤ a) (hx : x ≤ K) : a * x ≤ a * K := Int.mul_le_mul_of_nonneg_left hx ha
theorem le_mul_neg {a x K : Int} (ha : a ≤ 0) (hx : x ≤ K) : a * K ≤ a * x := by
  have := Int.mul_le_mul_of_nonneg_left hx (show 0 ≤ -a by omega)
  rw [Int.neg_mul, Int.neg_mul] at this; omega
theorem nn_mul_neg {a x : Int} (ha : a ≤ 0) (hx : 0 ≤ x) : a * x ≤ 0 := by
  have := Int.mul_nonneg (show 0 ≤ -a by omega) hx
  rw [Int.neg_mul] at this; omega
/-- What q * Y' <= X' < (q + 1) * Y' is shown from. -/
theorem true_quo {K L1 M1 L2 M2 Xc Yc q : Int} (hK : 0 < K) (q0 : 0 ≤ q) (hX1 : K * L1 ≤ Xc) (hX2 : Xc ≤ K * M1) (hY1 : K * L2 ≤ Yc) (hY2 : Yc ≤ K * M2) (hq1 : q * M2 ≤ L1) (hq2 : M1 < (q + 1) * L2) :
    0 ≤ Xc - q * Yc ∧ Xc - q * Yc < Yc := by
  have a1 : q * Yc ≤ q * (K * M2) := Int.mul_le_mul_of_nonneg_left hY2 q0
  have a2 : K * (q * M2) ≤ K * L1 := Int.mul_le_mul_of_nonneg_left hq1 (Int.le_of_lt hK)
  have e1 : q * (K * M2) = K * (q * M2) := by rw [Int.mul_left_comm]
  have b1 : (q + 1) * (K * L2) ≤ (q + 1) * Yc := Int.mul_le_mul_of_nonneg_left hY1 (by omega)
  have b2 : K * M1 < K * ((q + 1) * L2) := Int.mul_lt_mul_of_pos_left hq2 hK
  have e2 : (q + 1) * (K * L2) = K * ((q + 1) * L2) := by rw [Int.mul_left_comm]
  have e3 : (q + 1) * Yc = q * Yc + Yc := by rw [Int.add_mul, Int.one_mul]
  omega
theorem lt_succ_mul {x m q : Int} (hm : 0 < m) (h : q = x / m) : x < (q + 1) * m := by
  have h1 := Int.emod_add_mul_ediv x m
  have h2 := Int.emod_lt_of_pos x hm
  rw [← h] at h1
  rw [Int.add_mul, Int.one_mul, Int.mul_comm q m]; omega
theorem mul_le_of_quo {x m q : Int} (hm : 0 < m) (h : q = x / m) : q * m ≤ x := by rw [h]; exact Int.ediv_mul_le _ (by omega)
theorem linv_step {u0 v0 X Y x0 y0 K a b c d u v q : Int} (h : LInv u0 v0 X Y a b c d u v) (hv : 1000000000 ≤ v) (h1 : q = (u + a) / (v + c)) (h2 : q = (u + b) / (v + d))
    (hX : X = K * u0 + x0) (hY : Y = K * v0 + y0) (hK : 0 < K) (x00 : 0 ≤ x0) (x01 : x0 ≤ K) (y00 : 0 ≤ y0) (y01 : y0 ≤ K) (hu0 : u0 < 1000000000000000000) (hv0 : v0 < 1000000000000000000) :
    LInv u0 v0 X Y c d (a - q * c) (b - q * d) v (u - q * v) := by
  obtain ⟨hq, q0⟩ := linv_quo h hv h1 h2
  have bd := h.bd
  have nn := h.nn
  have vp : 0 < v := by omega
  have hlo := mul_le_of_quo vp hq
  have hhi := lt_succ_mul vp hq
  rw [Int.add_mul, Int.one_mul] at hhi
  have eXc : a * X + b * Y = K * u + (a * x0 + b * y0) := by rw [hX, hY, h.eu]; grind
  have eYc : c * X + d * Y = K * v + (c * x0 + d * y0) := by rw [hX, hY, h.ev]; grind
  have eN : (a - q * c) * X + (b - q * d) * Y = (a * X + b * Y) - q * (c * X + d * Y) := by grind
  have htrue : 0 ≤ (a * X + b * Y) - q * (c * X + d * Y) ∧ (a * X + b * Y) - q * (c * X + d * Y) < c * X + d * Y := by
    rcases h.sg with ⟨_, s1, s2, s3, s4⟩ | ⟨_, s1, s2, s3, s4⟩
    · refine true_quo (K := K) (L1 := u + b) (M1 := u + a) (L2 := v + c) (M2 := v + d) hK q0 ?_ ?_ ?_ ?_ (mul_le_of_quo (by omega) h2) (lt_succ_mul (by omega) h1)
      · rw [eXc, Int.mul_add, Int.mul_comm K b]
        have := Int.mul_nonneg s1 x00
        have := le_mul_neg s2 y01
        omega
      · rw [eXc, Int.mul_add, Int.mul_comm K a]
        have := le_mul s1 x01
        have := nn_mul_neg s2 y00
        omega
      · rw [eYc, Int.mul_add, Int.mul_comm K c]
        have := le_mul_neg s3 x01
        have := Int.mul_nonneg s4 y00
        omega
      · rw [eYc, Int.mul_add, Int.mul_comm K d]
        have := nn_mul_neg s3 x00
        have := le_mul s4 y01
        omega
    · refine true_quo (K := K) (L1 := u + a) (M1 := u + b) (L2 := v + d) (M2 := v + c) hK q0 ?_ ?_ ?_ ?_ (mul_le_of_quo (by omega) h1) (lt_succ_mul (by omega) h2)
      · rw [eXc, Int.mul_add, Int.mul_comm K a]
        have := le_mul_neg s1 x01
        have := Int.mul_nonneg s2 y00
        omega
      · rw [eXc, Int.mul_add, Int.mul_comm K b]
        have := nn_mul_neg s1 x00
        have := le_mul s2 y01
        omega
      · rw [eYc, Int.mul_add, Int.mul_comm K d]
        have := Int.mul_nonneg s3 x00
        have := le_mul_neg s4 y01
        omega
      · rw [eYc, Int.mul_add, Int.mul_comm K c]
        have := le_mul s3 x01
        have := nn_mul_neg s4 y00
        omega
  have hYle : c * X + d * Y ≤ Y := by
    rcases h.st with ⟨rfl, rfl, rfl, rfl⟩ | st
    · omega
    · omega
  have eu' : v = c * u0 + d * v0 := h.ev
  have ev' : u - q * v = (a - q * c) * u0 + (b - q * d) * v0 := by
    have := h.eu
    rw [this, eu']; grind
  -- the new factors are less than Limb
  have e3 : (b - q * d) * v - d * (u - q * v) = b * v - d * u := by grind
  have e4 : c * (u - q * v) - (a - q * c) * v = c * u - a * v := by grind
  have f1 : d * u - b * v = (a * d - b * c) * u0 := by rw [h.eu, h.ev]; grind
  have f2 : a * v - c * u = (a * d - b * c) * v0 := by rw [h.eu, h.ev]; grind
  have w0 : 0 ≤ u - q * v := by omega
  have w1 : u - q * v < v := by omega
  obtain ⟨C, hC⟩ : ∃ C, C = a - q * c := ⟨_, rfl⟩
  obtain ⟨D, hD⟩ : ∃ D, D = b - q * d := ⟨_, rfl⟩
  obtain ⟨V, hV⟩ : ∃ V, V = u - q * v := ⟨_, rfl⟩
  rw [← hC] at e4 eN ev'
  rw [← hD] at e3 eN ev'
  rw [← hV] at e3 e4 ev' w0 w1
  rw [← hC, ← hD, ← hV]
  have sgn : (c * D - d * C = 1 ∧ 0 ≤ c ∧ d ≤ 0 ∧ C ≤ 0 ∧ 0 ≤ D) ∨ (c * D - d * C = -1 ∧ c ≤ 0 ∧ 0 ≤ d ∧ 0 ≤ C ∧ D ≤ 0) := by
    have ed : c * D - d * C = -(a * d - b * c) := by rw [hC, hD]; grind
    rcases h.sg with ⟨s0, s1, s2, s3, s4⟩ | ⟨s0, s1, s2, s3, s4⟩
    · right
      have m1 := nn_mul_neg s3 q0
      have m2 := Int.mul_nonneg s4 q0
      refine ⟨by rw [ed, s0], s3, s4, ?_, ?_⟩
      · rw [hC, Int.mul_comm q c]; omega
      · rw [hD, Int.mul_comm q d]; omega
    · left
      have m1 := Int.mul_nonneg s3 q0
      have m2 := nn_mul_neg s4 q0
      refine ⟨by rw [ed, s0]; rfl, s3, s4, ?_, ?_⟩
      · rw [hC, Int.mul_comm q c]; omega
      · rw [hD, Int.mul_comm q d]; omega
  have bdn : -1000000000 < C ∧ C < 1000000000 ∧ -1000000000 < D ∧ D < 1000000000 := by
    have big : ∀ t : Int, 1000000000 ≤ t → 1000000000 * v ≤ t * v := fun t ht => Int.mul_le_mul_of_nonneg_right ht (by omega)
    rcases sgn with ⟨s0, s1, s2, s3, s4⟩ | ⟨s0, s1, s2, s3, s4⟩
    · -- pattern 1: D * v - d * V = u0, c * V - C * v = v0
      have k0 : a * d - b * c = -1 := by
        have : c * D - d * C = -(a * d - b * c) := by rw [hC, hD]; grind
        omega
      rw [k0] at f1 f2
      have m1 := nn_mul_neg s2 w0
      have m2 := Int.mul_nonneg s1 w0
      have hD2 : D < 1000000000 := by
        rcases Int.lt_or_le D 1000000000 with h | h
        · exact h
        · have := big D h; omega
      have hC2 : -1000000000 < C := by
        rcases Int.lt_or_le (-1000000000) C with h | h
        · exact h
        · have := big (-C) (by omega); rw [Int.neg_mul] at this; omega
      omega
    · have k0 : a * d - b * c = 1 := by
        have : c * D - d * C = -(a * d - b * c) := by rw [hC, hD]; grind
        omega
      rw [k0] at f1 f2
      have m1 := Int.mul_nonneg s2 w0
      have m2 := nn_mul_neg s1 w0
      have hC2 : C < 1000000000 := by
        rcases Int.lt_or_le C 1000000000 with h | h
        · exact h
        · have := big C h; omega
      have hD2 : -1000000000 < D := by
        rcases Int.lt_or_le (-1000000000) D with h | h
        · exact h
        · have := big (-D) (by omega); rw [Int.neg_mul] at this; omega
      omega
  refine ⟨eu', ev', sgn, by omega, ⟨by omega, w0⟩, ?_, Or.inr ⟨hv, w1, by rw [eN]; exact htrue.1, by rw [eN]; exact htrue.2, hYle⟩⟩
  rw [eN, Int.gcd_sub_mul_right_right, Int.gcd_comm]; exact h.gc
end Go.Proofs.Ytdolhanniiejfaa
/- The contract of nat.foreseen. -/
namespace Go.Proofs.Ytdolhanniiejfaa
open Go.ChangeShapes Go.WideShapes Go.RowKit
set_option linter.unusedVariables false
set_option maxRecDepth 100000

/-- A block of four integers. -/
def Four (w : World) (g : Nat) (a b c d : Int) : Prop := ∃ t, w.heap[g]? = some (.cells #[.int .i64 a, .int .i64 b, .int .i64 c, .int .i64 d] t (0, 0))
theorem Four.row {w : World} {g : Nat} {a b c d : Int} (h : Four w g a b c d) : Row w g [a, b, c, d] := by
  obtain ⟨t, h⟩ := h; exact row_of_heap (zs := [a, b, c, d]) h
theorem Four.lt {w : World} {g : Nat} {a b c d : Int} (h : Four w g a b c d) : g < w.heap.size := h.row.lt
theorem Four.new (w : World) (t : TypeId) (a b c d : Int) : Four (w.alloc (.cells #[.int .i64 a, .int .i64 b, .int .i64 c, .int .i64 d] t)) w.heap.size a b c d := ⟨t, heap_alloc_new w _⟩
theorem Four.keep {w w' : World} {g : Nat} {a b c d : Int} (h : Four w g a b c d) (hk : w'.heap[g]? = w.heap[g]?) : Four w' g a b c d := by
  obtain ⟨t, h⟩ := h; exact ⟨t, hk.trans h⟩
theorem Four.store {w : World} {g : Nat} {a b c d : Int} (h : Four w g a b c d) (a' b' c' d' : Int) :
    Four ((((w.setCell ⟨g, 0, none⟩ (.int .i64 a')).setCell ⟨g, 1, none⟩ (.int .i64 b')).setCell ⟨g, 2, none⟩ (.int .i64 c')).setCell ⟨g, 3, none⟩ (.int .i64 d')) g a' b' c' d' := by
  obtain ⟨t, h⟩ := h
  exact ⟨t, by simp [World.setCell, Array.getElem?_modify, h]⟩

/-- What is foreseen. -/
def SeenRes (w : World) (xs ys : List Int) (e : Ending) (w' : World) : Prop :=
  ∃ a b c d u v u0 v0, e = .returned (.agg #[.int .i64 a, .int .i64 b, .int .i64 c, .int .i64 d]) ∧ LInv u0 v0 (nval xs) (nval ys) a b c d u v ∧ (b ≠ 0 → xs.length = ys.length) ∧ Below w.heap.size w w'

theorem top_word {xs : List Int} {b off c n : Nat} {w : World} (hA : Holds w 0 w.heap.size (some ⟨b, off, none⟩) xs) (hx : lok xs = true) (hn : xs.length = n) (h2 : 2 ≤ n) (W : World) (hW : ∀ i, i < w.heap.size → W.heap[i]? = w.heap[i]?) :
    Calls Try.prog 71 #[.slice (some ⟨b, off + (n - 2), none⟩) 2 c] W fun e w' => e = .returned (.int .i64 (nval (xs.drop (n - 2)))) ∧ w' = W := by
  have hl : (xs.drop (n - 2)).length = 2 := by rw [List.length_drop]; omega
  have hS : Holds W 0 w.heap.size (some ⟨b, off + (n - 2), none⟩) (xs.drop (n - 2)) := by
    intro k z hz
    rw [List.getElem?_drop] at hz
    obtain ⟨b', off', e, _, hhi, hc⟩ := hA _ z hz
    cases e
    refine ⟨b, off + (n - 2), rfl, ⟨Nat.zero_le _, Or.inl rfl⟩, hhi, ?_⟩
    rw [Nat.add_assoc]
    exact (World.cell?_of_block (w := w) (a := ⟨b, off + (n - 2 + k), none⟩) (hW b hhi)).trans hc
  have h := nat_word (xs.drop (n - 2)) (some ⟨b, off + (n - 2), none⟩) c 0 w.heap.size W hS (lok_drop hx _) (by omega)
  rw [hl] at h
  exact h.mono fun _ _ k => ⟨k.1, k.2.symm⟩
theorem top_split {xs : List Int} {n : Nat} (hx : lok xs = true) (hn : xs.length = n) (h2 : 2 ≤ n) :
    nval xs = 1000000000 ^ (n - 2) * nval (xs.drop (n - 2)) + nval (xs.take (n - 2)) ∧ 0 ≤ nval (xs.take (n - 2)) ∧ nval (xs.take (n - 2)) ≤ 1000000000 ^ (n - 2) ∧ 0 ≤ nval (xs.drop (n - 2)) ∧ nval (xs.drop (n - 2)) < 1000000000000000000 := by
  have e := nval_append (xs.take (n - 2)) (xs.drop (n - 2))
  rw [List.take_append_drop, List.length_take, Nat.min_eq_left (by omega)] at e
  have a := nval_lt (lok_take hx (n - 2))
  rw [List.length_take, Nat.min_eq_left (by omega)] at a
  have b := nval_small (lok_drop hx (n - 2)) (by rw [List.length_drop]; omega)
  exact ⟨by omega, nval_nonneg (lok_take hx _), by omega, b.1, b.2⟩

set_option maxHeartbeats 3200000 in
theorem nat_foreseen (xs ys : List Int) (A B : Option Addr) (c d : Nat) (w : World) (hA : Holds w 0 w.heap.size A xs) (hB : Holds w 0 w.heap.size B ys) (hx : lok xs = true) (hy : lok ys = true) (hly : 2 < ys.length) (hc : xs.length ≤ c) (hd : ys.length ≤ d)
    (hlx : xs.length ≤ 1000) (hly2 : ys.length ≤ 1000) :
    Calls Try.prog 88 #[.slice A xs.length c, .slice B ys.length d] w (SeenRes w xs ys) := by
  have HA := Lib.hid hA
  have HB := Lib.hid hB
  have HX := Lib.hid hx
  have HY := Lib.hid hy
  clear hA hB hx hy
  by_cases hl : xs.length = ys.length
  · go_enter Try.func88, Try.ntmps88
    rw [← hl] at hly ⊢
    have HL := Lib.hid hl
    obtain ⟨n, hn⟩ : ∃ n, n = xs.length := ⟨_, rfl⟩
    have hn' : ys.length = n := by omega
    obtain ⟨bx, offx, rfl, -, -, -⟩ := HA.out 0 _ (List.getElem?_eq_getElem (by omega))
    obtain ⟨bY, offy, rfl, -, -, -⟩ := HB.out 0 _ (List.getElem?_eq_getElem (by omega))
    rw [← hn] at hly hc hlx ⊢
    have hd' : n ≤ d := by omega
    have tx := top_split HX.out hn.symm (by omega)
    have ty := top_split HY.out hn' (by omega)
    have WX := fun c' W hW => top_word (c := c') HA.out HX.out hn.symm (by omega) W hW
    have WY := fun c' W hW => top_word (c := c') HB.out HY.out hn' (by omega) W hW
    obtain ⟨u0, hu0⟩ : ∃ u0, u0 = nval (xs.drop (n - 2)) := ⟨_, rfl⟩
    obtain ⟨v0, hv0⟩ : ∃ v0, v0 = nval (ys.drop (n - 2)) := ⟨_, rfl⟩
    rw [← hu0] at tx WX
    rw [← hv0] at ty WY
    obtain ⟨tx1, tx2, tx3, tx4, tx5⟩ := tx
    obtain ⟨ty1, ty2, ty3, ty4, ty5⟩ := ty
    have hw0 : ∀ (o1 o2 : Obj) (m i : Nat), i < w.heap.size → (((w.alloc o1).alloc o2).drewN m).heap[i]? = w.heap[i]? := by
      intro o1 o2 m i hi
      show ((w.alloc o1).alloc o2).heap[i]? = _
      rw [Below.heap_alloc _ _ _ (by simp; omega), Below.heap_alloc _ _ _ hi]
    have HWX := Lib.hid WX
    have HWY := Lib.hid WY
    have HW0 := Lib.hid hw0
    have TX1 := Lib.hid tx1
    have TX2 := Lib.hid tx2
    have TX3 := Lib.hid tx3
    have TY1 := Lib.hid ty1
    have TY2 := Lib.hid ty2
    have TY3 := Lib.hid ty3
    have en : (n : Int) - 2 = ((n - 2 : Nat) : Int) := by omega
    have k1 : n - (n - 2) = 2 := by omega
    have k0 : IntKind.i64.wrap ((n - 2 : Nat) : Int) = ((n - 2 : Nat) : Int) := wrap_id (by omega) (by omega)
    have k2 : ¬ c = n - 2 := by omega
    have k3 : ¬ d = n - 2 := by omega
    have k4 : ((n - 2 : Nat) : Int) ≤ (n : Int) := by omega
    clear hl hn hn' hu0 hv0 tx1 tx2 tx3 ty1 ty2 ty3 WX WY hw0
    go_wp2_with fail
    go_quiet ((go_at_call 71; first | (with_reducible exact Calls.quiet_of_same (HWX.out _ _ (fun i hi => HW0.out _ _ _ i hi))) | (with_reducible exact Calls.quiet_of_same (HWY.out _ _ (fun i hi => HW0.out _ _ _ i hi)))))
    obtain ⟨W1, hW1⟩ : ∃ W1, W1 = ((w.alloc (.cells #[.int .i64 0, .int .i64 0, .int .i64 0, .int .i64 0] 101)).alloc (.cells #[.int .i64 1, .int .i64 0, .int .i64 0, .int .i64 1] 101)).drewN nq := ⟨_, rfl⟩
    have f4 : Four W1 w.heap.size 0 0 0 0 := by
      rw [hW1]
      exact ((Four.new w 101 0 0 0 0).keep (w' := (w.alloc _).alloc _) (Below.heap_alloc _ _ _ (by simp))).keep rfl
    have f5 : Four W1 (w.heap.size + 1) 1 0 0 1 := by
      rw [hW1]
      have := Four.new (w.alloc (.cells #[.int .i64 0, .int .i64 0, .int .i64 0, .int .i64 0] 101)) 101 1 0 0 1
      rw [show (w.alloc (.cells #[.int .i64 0, .int .i64 0, .int .i64 0, .int .i64 0] 101)).heap.size = w.heap.size + 1 by simp] at this
      exact this.keep rfl
    have bw : Below w.heap.size w W1 := by rw [hW1]; exact below_drewN (((Below.refl _ _).alloc (Nat.le_refl _) _).alloc (by simp) _) _
    have F4 := Lib.hid f4
    have F5 := Lib.hid f5
    have BW := Lib.hid bw
    rw [← hW1]
    clear f4 f5 bw hW1
    go_wp2_with fail
    go_loopw [6, 7] (fun uv vv wr => ∃ a b e f u v : Int, uv = .int .i64 u ∧ vv = .int .i64 v ∧ u < 1000000000000000000 ∧ v < 1000000000000000000 ∧ LInv u0 v0 (nval xs) (nval ys) a b e f u v ∧ Four wr w.heap.size 0 0 0 0 ∧ Four wr (w.heap.size + 1) a b e f ∧ Below w.heap.size w wr) (fun _ vv _ => (intOf vv).toNat)
    case atStart => exact ⟨1, 0, 0, 1, u0, v0, rfl, rfl, tx5, ty5, linv_start tx4 ty4, F4.out, F5.out, BW.out⟩
    case round =>
      obtain ⟨a, b, e, f, u, v, rfl, rfl, u1, v1, hinv, g4, g5, hbel⟩ := hrel
      have HI := Lib.hid hinv
      have G4 := Lib.hid g4
      have G5 := Lib.hid g5
      have HBL := Lib.hid hbel
      obtain ⟨bd1, bd2, bd3, bd4, bd5, bd6, bd7, bd8⟩ := hinv.bd
      obtain ⟨nn1, nn2⟩ := hinv.nn
      have c0 := g5.row.cell (i := 0) (z := a) rfl
      have c1 := g5.row.cell (i := 1) (z := b) rfl
      have c2 := g5.row.cell (i := 2) (z := e) rfl
      have c3 := g5.row.cell (i := 3) (z := f) rfl
      have z0 := g4.row.cell (i := 0) (z := 0) rfl
      have z1 := g4.row.cell (i := 1) (z := 0) rfl
      have z2 := g4.row.cell (i := 2) (z := 0) rfl
      have z3 := g4.row.cell (i := 3) (z := 0) rfl
      have fr5 := g5.row.frozen
      have fr4 := g4.row.frozen
      have HLL := Lib.hid HL.out
      rcases Int.lt_or_le v 1000000000 with hv | hv
      · have hv' : decide (1000000000 ≤ v) = false := decide_eq_false (by omega)
        clear hinv g4 g5 hbel
        go_wp2_with fail
        have hf := (G4.out.store a b e f).row
        have r0 := hf.cell (i := 0) (z := a) rfl
        have r1 := hf.cell (i := 1) (z := b) rfl
        have r2 := hf.cell (i := 2) (z := e) rfl
        have r3 := hf.cell (i := 3) (z := f) rfl
        exact bodyPost_ret (v := .agg #[.int .i64 a, .int .i64 b, .int .i64 e, .int .i64 f]) (by simp [results, Try.results88, go_sem, r0, r1, r2, r3]) rfl
          ⟨a, b, e, f, u, v, u0, v0, rfl, HI.out, fun _ => HL.out, (((HBL.out.setCell (p := ⟨w.heap.size, 0, none⟩) (Nat.le_refl _) _).setCell (p := ⟨w.heap.size, 1, none⟩) (Nat.le_refl _) _).setCell (p := ⟨w.heap.size, 2, none⟩) (Nat.le_refl _) _).setCell (p := ⟨w.heap.size, 3, none⟩) (Nat.le_refl _) _⟩
      · have hua : 0 ≤ u + a ∧ 0 ≤ u + b := by
          rcases hinv.st with ⟨rfl, rfl, rfl, rfl⟩ | st
          · omega
          · omega
        obtain ⟨hua1, hua2⟩ := hua
        obtain ⟨q, hq⟩ : ∃ q, q = (u + a) / (v + e) := ⟨_, rfl⟩
        obtain ⟨q2, hq2⟩ : ∃ q2, q2 = (u + b) / (v + f) := ⟨_, rfl⟩
        have t1 : (u + a).tdiv (v + e) = q := by rw [hq]; exact Int.tdiv_eq_ediv_of_nonneg hua1
        have t2 : (u + b).tdiv (v + f) = q2 := by rw [hq2]; exact Int.tdiv_eq_ediv_of_nonneg hua2
        have q0 : 0 ≤ q := by rw [hq]; exact Int.ediv_nonneg hua1 (by omega)
        have q1 : q ≤ u + a := by rw [hq]; exact Int.ediv_le_self _ hua1
        have q20 : 0 ≤ q2 := by rw [hq2]; exact Int.ediv_nonneg hua2 (by omega)
        have q21 : q2 ≤ u + b := by rw [hq2]; exact Int.ediv_le_self _ hua2
        have m1 : ¬ v + e = 0 := by omega
        have m2 : (v + e == 0) = false := beq_false_of_ne m1
        have m3 : ¬ v + f = 0 := by omega
        have m4 : (v + f == 0) = false := beq_false_of_ne m3
        by_cases hqq : q = q2
        · have hst := linv_step HI.out hv hq (hqq.trans hq2) TX1.out TY1.out (pow_pos' _) TX2.out TX3.out TY2.out TY3.out tx5 ty5
          obtain ⟨s1, s2, s3, s4, s5, s6, s7, s8⟩ := hst.bd
          have snn := hst.nn.2
          have squo := (linv_quo HI.out hv hq (hqq.trans hq2)).1
          have slt : u - q * v < v := by
            have := lt_succ_mul (by omega) squo
            rw [Int.add_mul, Int.one_mul] at this; omega
          have qv0 : 0 ≤ q * v := Int.mul_nonneg q0 (by omega)
          have HST := Lib.hid hst
          subst hqq
          have hqn : (q != q) = false := by simp
          have S5 := Lib.hid (G5.out.store e f (a - q * e) (b - q * f))
          have S4 := Lib.hid (show Four ((((wr.setCell ⟨w.heap.size + 1, 0, none⟩ (.int .i64 e)).setCell ⟨w.heap.size + 1, 1, none⟩ (.int .i64 f)).setCell ⟨w.heap.size + 1, 2, none⟩ (.int .i64 (a - q * e))).setCell ⟨w.heap.size + 1, 3, none⟩ (.int .i64 (b - q * f))) w.heap.size 0 0 0 0 from
            G4.out.keep (by rw [Below.heap_setCell _ _ _ _ (by show w.heap.size ≠ w.heap.size + 1; omega), Below.heap_setCell _ _ _ _ (by show w.heap.size ≠ w.heap.size + 1; omega), Below.heap_setCell _ _ _ _ (by show w.heap.size ≠ w.heap.size + 1; omega), Below.heap_setCell _ _ _ _ (by show w.heap.size ≠ w.heap.size + 1; omega)]))
          have SB := Lib.hid ((((HBL.out.setCell (p := ⟨w.heap.size + 1, 0, none⟩) (Nat.le_succ _) (.int .i64 e)).setCell (p := ⟨w.heap.size + 1, 1, none⟩) (Nat.le_succ _) (.int .i64 f)).setCell (p := ⟨w.heap.size + 1, 2, none⟩) (Nat.le_succ _) (.int .i64 (a - q * e))).setCell (p := ⟨w.heap.size + 1, 3, none⟩) (Nat.le_succ _) (.int .i64 (b - q * f)))
          clear hinv g4 g5 hbel hq hq2 hst squo z0 z1 z2 z3 fr4
          go_wp2_with fail
          go_roundw
          case rel => exact ⟨e, f, a - q * e, b - q * f, v, u - q * v, rfl, rfl, v1, by omega, HST.out, S4.out, S5.out, SB.out⟩
          case measure => simp only [intOf]; omega
        · have hqn : (q != q2) = true := by simpa using hqq
          clear hinv g4 g5 hbel hq hq2 hqq
          go_wp2_with fail
          have hf := (G4.out.store a b e f).row
          have r0 := hf.cell (i := 0) (z := a) rfl
          have r1 := hf.cell (i := 1) (z := b) rfl
          have r2 := hf.cell (i := 2) (z := e) rfl
          have r3 := hf.cell (i := 3) (z := f) rfl
          exact bodyPost_ret (v := .agg #[.int .i64 a, .int .i64 b, .int .i64 e, .int .i64 f]) (by simp [results, Try.results88, go_sem, r0, r1, r2, r3]) rfl
            ⟨a, b, e, f, u, v, u0, v0, rfl, HI.out, fun _ => HL.out, (((HBL.out.setCell (p := ⟨w.heap.size, 0, none⟩) (Nat.le_refl _) _).setCell (p := ⟨w.heap.size, 1, none⟩) (Nat.le_refl _) _).setCell (p := ⟨w.heap.size, 2, none⟩) (Nat.le_refl _) _).setCell (p := ⟨w.heap.size, 3, none⟩) (Nat.le_refl _) _⟩
  · have hne : ((xs.length : Int) != (ys.length : Int)) = true := by simp; omega
    go_enter Try.func88, Try.ntmps88
    go_wp2_with fail
    exact bodyPost_ret (v := .agg #[.int .i64 1, .int .i64 0, .int .i64 0, .int .i64 1]) (by simp [results, Try.results88, go_sem]) rfl
      ⟨1, 0, 0, 1, 0, 0, 0, 0, rfl, linv_start (by omega) (by omega), fun h => absurd rfl h, ((Below.refl _ _).alloc (Nat.le_refl _) _).alloc (by simp) _⟩
end Go.Proofs.Ytdolhanniiejfaa
/- The contracts of nat.combined and nat.shortened. -/
namespace Go.Proofs.Ytdolhanniiejfaa
open Go.ChangeShapes Go.WideShapes Go.RowKit
set_option linter.unusedVariables false
set_option maxRecDepth 100000

theorem comb_val {xs ys : List Int} {m n : Int} (hl : xs.length = ys.length) : nval (addT (addT (List.replicate (xs.length + 1) 0) xs m 0) ys n 0) = m * nval xs + n * nval ys := by
  rw [addT_val _ _ _ _ (by rw [addT_length]; simp; omega), addT_val _ _ _ _ (by simp), nval_zeros]; omega
theorem comb_bd {X m P : Int} (x0 : 0 ≤ X) (x1 : X < P) (m0 : -1000000000 < m) (m1 : m < 1000000000) : -(1000000000 * P) < m * X ∧ m * X < 1000000000 * P := by
  have a1 : m * X ≤ 999999999 * X := Int.mul_le_mul_of_nonneg_right (by omega) x0
  have a2 : -999999999 * X ≤ m * X := Int.mul_le_mul_of_nonneg_right (by omega) x0
  omega

set_option maxHeartbeats 1600000 in
theorem nat_combined (xs ys : List Int) (A B : Option Addr) (c d : Nat) (m n : Int) (w : World) (hA : Holds w 0 w.heap.size A xs) (hB : Holds w 0 w.heap.size B ys) (hx : lok xs = true) (hy : lok ys = true) (hl : xs.length = ys.length) (hlx : xs.length ≤ 1000)
    (m0 : -1000000000 < m) (m1 : m < 1000000000) (n0 : -1000000000 < n) (n1 : n < 1000000000) (h0 : 0 ≤ m * nval xs + n * nval ys) (h1 : m * nval xs + n * nval ys ≤ nval ys) :
    Calls Try.prog 89 #[.slice A xs.length c, .int .i64 m, .slice B ys.length d, .int .i64 n] w (GcdRes w (m * nval xs + n * nval ys).toNat) := by
  have hct := nat_times xs A c m 0 w.heap.size w hA (Nat.le_refl _) (by omega) hx m0 m1
  have x0 := nval_nonneg hx
  have x1 := nval_lt hx
  have y1 := nval_lt hy
  have hlT : (addT (List.replicate (xs.length + 1) 0) xs m 0).length = xs.length + 1 := by rw [addT_length]; simp
  have hvT : nval (addT (List.replicate (xs.length + 1) 0) xs m 0) = m * nval xs := by rw [addT_val _ _ _ _ (by simp), nval_zeros]; omega
  have hdT := addT_lok (List.replicate (xs.length + 1) 0) xs m 0
  have hbd := comb_bd x0 x1 m0 m1
  have hlast : ∀ z, (addT (List.replicate (xs.length + 1) 0) xs m 0)[xs.length]? = some z → -4000000000000000000 < z ∧ z < 4000000000000000000 := by
    intro z hz
    have := last_bd hdT hlT hz hvT hbd.1 (by rw [Int.pow_succ]; omega)
    omega
  have hvR := comb_val (m := m) (n := n) hl
  obtain ⟨T, hT⟩ : ∃ T, T = addT (List.replicate (xs.length + 1) 0) xs m 0 := ⟨_, rfl⟩
  rw [← hT] at hct hlT hdT hlast hvR
  have hRl : (addT T ys n 0).length = xs.length + 1 := by rw [addT_length, hlT]
  have hRk : lok (addT T ys n 0) = true := by
    refine lok_of_dropLast (by intro h; rw [h] at hRl; simp at hRl) (addT_lok _ _ _ _) (by rw [hvR]; exact h0) ?_
    rw [hvR, hRl, Int.pow_succ, hl]; omega
  have HCT := Lib.hid hct
  have HB := Lib.hid hB
  have HY := Lib.hid hy
  have HLT := Lib.hid hlT
  have HDT := Lib.hid hdT
  have HLA := Lib.hid hlast
  have HVR := Lib.hid hvR
  have HRL := Lib.hid hRl
  have HRK := Lib.hid hRk
  have HL := Lib.hid hl
  clear hA hB hx hy hct x0 x1 y1 hlT hvT hdT hbd hlast hvR hT hRl hRk hl h0 h1
  go_enter Try.func89, Try.ntmps89
  go_wp2_with fail
  refine HCT.out.mono ?_
  rintro e w1 ⟨rfl, hr1, hb1⟩
  have hadd := nat_addTimes T T ys n w.heap.size 0 (xs.length + 1) d 0 w.heap.size B w1 hr1 (by omega) (fun j _ => by rw [Nat.zero_add]) (HB.out.below hb1 (Nat.le_refl _)) (Or.inr (Nat.le_refl _)) (by rw [HLT.out, HL.out]; omega) (by rw [HLT.out]; omega) HDT.out (fun z hz => HLA.out z (by rw [HLT.out] at hz; exact hz)) HY.out n0 n1
  rw [HLT.out, laid_all (by rw [addT_length])] at hadd
  have HADD := Lib.hid hadd
  have HB1 := Lib.hid hb1
  clear hadd hr1 hb1
  go_wp2_with fail
  refine HADD.out.mono ?_
  rintro e w2 ⟨rfl, hrow, honly⟩
  have hb2 : Below w.heap.size w w2 := HB1.out.trans (honly.toBelow (Nat.le_refl _))
  have htr := nat_trimmed (addT T ys n 0) (some ⟨w.heap.size, 0, none⟩) (xs.length + 1) w.heap.size w2.heap.size w2 (hrow.holds (fun k z hz => by rw [Nat.zero_add]; exact hz) (Nat.le_refl _) hrow.lt) (by rw [HRL.out]; omega) (by unfold maxLen; omega)
  rw [HRL.out] at htr
  have hsl : Sl w2 w.heap.size w2.heap.size (.slice (some ⟨w.heap.size, 0, none⟩) (trimL (addT T ys n 0)).length (xs.length + 1)) (limbs (m * nval xs + n * nval ys).toNat) := by
    have e : limbs (m * nval xs + n * nval ys).toNat = trimL (addT T ys n 0) := by rw [trimL_limbs HRK.out, HVR.out]
    rw [e]
    have := trimL_len_le (addT T ys n 0)
    rw [HRL.out] at this
    exact ⟨_, _, rfl, this, by unfold maxLen; omega, by rw [← trimL_eq_take (addT T ys n 0)]; exact (hrow.take _).holds (fun k z hz => by rw [Nat.zero_add]; exact hz) (Nat.le_refl _) hrow.lt⟩
  have HTR := Lib.hid htr
  have HSL := Lib.hid hsl
  have HB2 := Lib.hid hb2
  clear htr hsl hb2 hrow honly
  go_wp2_with fail
  refine HTR.out.mono ?_
  rintro e w3 ⟨rfl, rfl⟩
  go_wp2_with fail
  go_ret
  exact ⟨_, rfl, HSL.out, HB2.out⟩
end Go.Proofs.Ytdolhanniiejfaa
/- What nat.shortened leaves. -/
namespace Go.Proofs.Ytdolhanniiejfaa
open Go.ChangeShapes Go.WideShapes Go.RowKit
set_option linter.unusedVariables false
set_option maxRecDepth 100000

def ShortRes (w : World) (xs ys : List Int) (e : Ending) (w' : World) : Prop :=
  ∃ vx vy xs' ys', e = .returned (.tuple #[vx, vy]) ∧ In w' vx xs' ∧ In w' vy ys' ∧ nrm xs' = true ∧ nrm ys' = true ∧ xs'.length ≤ ys.length ∧ ys'.length ≤ ys.length ∧
    Nat.gcd (nval xs').toNat (nval ys').toNat = Nat.gcd (nval xs).toNat (nval ys).toNat ∧ nval ys' < nval ys ∧ Below w.heap.size w w'
theorem len_le_of {N : Nat} {ys : List Int} (hy : nrm ys = true) (h : N ≤ (nval ys).toNat) : (limbs N).length ≤ ys.length := by
  have hl := nrm_limbs hy
  have : (nval ys).toNat < 1000000000 ^ ys.length := limbs_len_le.mp (by rw [← hl]; exact Nat.le_refl _)
  exact limbs_len_le.mpr (by omega)
theorem gcd_int {x y : Int} (hx : 0 ≤ x) (hy : 0 ≤ y) : Nat.gcd x.toNat y.toNat = Int.gcd x y := by
  have e1 : x.natAbs = x.toNat := by omega
  have e2 : y.natAbs = y.toNat := by omega
  show _ = Nat.gcd x.natAbs y.natAbs
  rw [e1, e2]
theorem short_facts {u0 v0 a b c d u v : Int} {xs ys : List Int} (h : LInv u0 v0 (nval xs) (nval ys) a b c d u v) (hb : b ≠ 0) (hx : nrm xs = true) (hy : nrm ys = true) :
    0 ≤ a * nval xs + b * nval ys ∧ a * nval xs + b * nval ys ≤ nval ys ∧ 0 ≤ c * nval xs + d * nval ys ∧ c * nval xs + d * nval ys < nval ys ∧
    Nat.gcd (a * nval xs + b * nval ys).toNat (c * nval xs + d * nval ys).toNat = Nat.gcd (nval xs).toNat (nval ys).toNat := by
  have x0 := nval_nonneg (nrm_lok hx)
  have y0 := nval_nonneg (nrm_lok hy)
  rcases h.st with ⟨_, h2, _, _⟩ | ⟨_, _, s1, s2, s3⟩
  · exact absurd h2 hb
  · refine ⟨by omega, s3, s1, by omega, ?_⟩
    rw [gcd_int (by omega) s1, h.gc, gcd_int x0 y0]

end Go.Proofs.Ytdolhanniiejfaa
/- The contract of nat.gcd, out of that of shortened. -/
namespace Go.Proofs.Ytdolhanniiejfaa
open Go.ChangeShapes Go.WideShapes Go.RowKit
set_option linter.unusedVariables false
set_option maxRecDepth 100000

/-- The integers that a slice holds, read off the world: for a loop's measure. -/
def readL (w : World) : Value → List Int
  | .slice (some a) n _ => (List.range n).map fun i => ((w.cell? ⟨a.block, a.off + i, none⟩).map intOf).getD 0
  | _ => []
theorem readL_in {w : World} {v : Value} {zs : List Int} (h : In w v zs) : readL w v = zs := by
  obtain ⟨A, c, rfl, _, _, hS⟩ := h
  cases A with
  | none =>
    cases zs with
    | nil => rfl
    | cons z zs => obtain ⟨b, off, hA, _⟩ := hS 0 z rfl; cases hA
  | some a =>
    apply List.ext_getElem?
    intro i
    show ((List.range zs.length).map fun i => ((w.cell? ⟨a.block, a.off + i, none⟩).map intOf).getD 0)[i]? = zs[i]?
    rw [List.getElem?_map]
    rcases Nat.lt_or_ge i zs.length with h | h
    · have hz : zs[i]? = some zs[i] := List.getElem?_eq_getElem h
      obtain ⟨b, off, hA, _, _, hc⟩ := hS i zs[i] hz
      cases hA
      rw [List.getElem?_range h, hz]
      simp [hc, intOf]
    · rw [List.getElem?_eq_none h, List.getElem?_eq_none (by simpa using h)]; rfl

set_option maxHeartbeats 6400000 in
theorem gcd_of_short (HSH : ∀ (xs ys : List Int) (va vb : Value) (W : World), In W va xs → In W vb ys → nrm xs = true → nrm ys = true → 2 < ys.length → xs.length ≤ 1000 → ys.length ≤ 1000 → Calls Try.prog 84 #[va, vb] W (ShortRes W xs ys))
    (xs ys : List Int) (va vb : Value) (w : World) (ha : In w va xs) (hb : In w vb ys) (hx : nrm xs = true) (hy : nrm ys = true) (hlx : xs.length ≤ 1000) (hly : ys.length ≤ 1000) :
    Calls Try.prog 75 #[va, vb] w (GcdRes w (Nat.gcd (nval xs).toNat (nval ys).toNat)) := by
  obtain ⟨G, hG⟩ : ∃ G, G = Nat.gcd (nval xs).toNat (nval ys).toNat := ⟨_, rfl⟩
  rw [← hG]
  have HA := Lib.hid ha
  have HB := Lib.hid hb
  have HX := Lib.hid hx
  have HY := Lib.hid hy
  have HG := Lib.hid hG
  have HSHH := Lib.hid HSH
  clear ha hb hx hy hG HSH
  go_enter Try.func75, Try.ntmps75
  go_wp2_with fail
  go_loopw [0, 1] (fun xv yv wr => ∃ xs' ys' : List Int, In wr xv xs' ∧ In wr yv ys' ∧ nrm xs' = true ∧ nrm ys' = true ∧ xs'.length ≤ 1000 ∧ ys'.length ≤ 1000 ∧ Nat.gcd (nval xs').toNat (nval ys').toNat = G ∧ Below w.heap.size w wr) (fun _ yv wr => (nval (readL wr yv)).toNat)
  case atStart => exact ⟨xs, ys, HA.out, HB.out, HX.out, HY.out, hlx, hly, HG.out.symm, Below.refl _ _⟩
  case round =>
    obtain ⟨xs', ys', hax, hby, hnx, hny, hl1, hl2, hg, hbel⟩ := hrel
    have HAX := Lib.hid hax
    have HBY := Lib.hid hby
    have HNX := Lib.hid hnx
    have HNY := Lib.hid hny
    have HGG := Lib.hid hg
    have HBL := Lib.hid hbel
    obtain ⟨A, ca, rfl, hca, hma, hAh⟩ := hax
    obtain ⟨B, cb, rfl, hcb, hmb, hBh⟩ := hby
    have HAH := Lib.hid hAh
    have HBH := Lib.hid hBh
    clear hnx hny hg hbel hAh hBh hma hmb
    rcases Nat.lt_or_ge 2 ys'.length with hlong | hshort
    · have hl' : (2 : Int) < (ys'.length : Int) := by omega
      go_wp2_with fail
      refine (HSHH.out xs' ys' _ _ wr HAX.out HBY.out HNX.out HNY.out hlong hl1 hl2).mono ?_
      rintro e w1 ⟨vx, vy, xs2, ys2, rfl, hi1, hi2, hn1, hn2, hle1, hle2, hgg, hlt, hb1⟩
      have I1 := Lib.hid hi1
      have I2 := Lib.hid hi2
      have N1 := Lib.hid hn1
      have N2 := Lib.hid hn2
      have GG := Lib.hid hgg
      have LT := Lib.hid hlt
      have B1 := Lib.hid (bstep HBL.out hb1)
      have R2 := Lib.hid (readL_in hi2)
      have R0 := Lib.hid (readL_in HBY.out)
      clear hi1 hi2 hn1 hn2 hgg hlt hb1
      go_wp2_with fail
      go_roundw
      case rel => exact ⟨xs2, ys2, I1.out, I2.out, N1.out, N2.out, by omega, by omega, GG.out.trans HGG.out, B1.out⟩
      case measure =>
        have h1 := R2.out
        have h2 := R0.out
        have h3 := LT.out
        have h4 := nval_nonneg (nrm_lok N2.out)
        rw [h1, h2]; omega
    · have hl2' : decide ((2 : Int) < (ys'.length : Int)) = false := decide_eq_false (by omega)
      rcases Nat.eq_zero_or_pos ys'.length with h0 | hp
      · have hnil : ys' = [] := List.eq_nil_of_length_eq_zero h0
        subst hnil
        have hg0 : (nval xs').toNat = G := by have := HGG.out; rw [show (nval []).toNat = 0 from rfl, Nat.gcd_zero_right] at this; exact this
        have HXL := Lib.hid (nrm_limbs HNX.out)
        have HG0 := Lib.hid hg0
        clear hg0
        go_wp2_with fail
        refine (nat_copied xs' A ca xs'.length _ _ wr HAH.out (Nat.le_refl _) (Nat.le_refl _) (by omega)).mono ?_
        rintro e w1 ⟨rfl, hrow, hb1⟩
        rw [padL_self] at hrow
        have HR := Lib.hid hrow
        have HB1 := Lib.hid (bstep HBL.out hb1)
        clear hrow hb1
        go_wp2_with fail
        go_ret
        have hs := HBL.out.size
        refine ⟨_, rfl, ?_, HB1.out⟩
        rw [← HG0.out, ← HXL.out]
        exact ⟨_, _, rfl, Nat.le_refl _, by unfold maxLen; omega, HR.out.holds (fun k z hz => by rw [Nat.zero_add]; exact hz) hs HR.out.lt⟩
      · have hne : ((ys'.length : Int) == 0) = false := beq_false_of_ne (by omega)
        have sy := nval_small (nrm_lok HNY.out) hshort
        have py := nval_pos HNY.out hp
        obtain ⟨M, hM⟩ : ∃ M, M = (nval ys').toNat := ⟨_, rfl⟩
        obtain ⟨N, hN⟩ : ∃ N, N = (nval xs').toNat := ⟨_, rfl⟩
        have eM : nval ys' = (M : Int) := by omega
        have hM1 : M < 1000000000000000000 := by omega
        have hM0 : 0 < M := by omega
        have hr2 : (limbs (N % M)).length ≤ 2 := limbs_len_le.mpr (by have := Nat.mod_lt N hM0; omega)
        have hdv := nat_divide xs' ys' _ _ wr HAX.out HBY.out HNX.out HNY.out hl1 hp
        have hgg := HGG.out
        rw [← hM, ← hN] at hgg
        have HGN := Lib.hid hgg
        have HM := Lib.hid hM
        have HN := Lib.hid hN
        have EM := Lib.hid eM
        have HR2 := Lib.hid hr2
        have HDV := Lib.hid hdv
        clear sy py hM hN eM hr2 hdv hgg
        go_wp2_with fail
        refine HDV.out.mono ?_
        rintro e w1 ⟨vq, vr, rfl, -, hr, hb⟩
        rw [← HM.out, ← HN.out] at hr
        obtain ⟨A2, c2, rfl, hc2, hm2, hA2⟩ := hr
        have hwb : Calls Try.prog 71 #[.slice B ys'.length cb] w1 fun e w' => e = .returned (.int .i64 M) ∧ w1 = w' := by
          rw [← EM.out]; exact nat_word ys' B cb _ _ w1 (Holds.below HBH.out hb (Nat.le_refl _)) (nrm_lok HNY.out) hshort
        have hwr : Calls Try.prog 71 #[.slice A2 (limbs (N % M)).length c2] w1 fun e w' => e = .returned (.int .i64 ((N % M : Nat) : Int)) ∧ w1 = w' := by
          have := nat_word (limbs (N % M)) A2 c2 _ _ w1 hA2 (lok_limbs _) HR2.out
          rw [nval_limbs] at this; exact this
        have HWB := Lib.hid hwb
        have HWR := Lib.hid hwr
        have HBL1 := Lib.hid (bstep HBL.out hb)
        clear hwb hwr hb hA2 hm2
        go_wp2_with fail
        refine HWB.out.mono ?_
        rintro e w' ⟨rfl, rfl⟩
        go_wp2_with fail
        refine HWR.out.mono ?_
        rintro e w' ⟨rfl, rfl⟩
        go_wp2_with fail
        go_loopw [7, 8] (fun m n wr2 => ∃ a b : Nat, m = .int .i64 a ∧ n = .int .i64 b ∧ a < 1000000000000000000 ∧ b < 1000000000000000000 ∧ Nat.gcd a b = G ∧ Below w.heap.size w wr2) (fun _ n _ => (intOf n).toNat)
        case atStart => exact ⟨M, N % M, rfl, rfl, hM1, by have := Nat.mod_lt N hM0; omega, (gcd_step _ _).trans HGN.out, HBL1.out⟩
        case round =>
          obtain ⟨a, b, rfl, rfl, ha1, hb1, hg, hbel⟩ := hrel
          have HG2 := Lib.hid hg
          have HBL2 := Lib.hid hbel
          clear hg hbel
          rcases Nat.eq_zero_or_pos b with rfl | hb0
          · have hg := HG2.out
            rw [Nat.gcd_zero_right] at hg
            have HG3 := Lib.hid hg
            clear hg
            go_wp2_with fail
            refine (nat_ofWord (a : Int) wr (by omega) (by omega)).mono ?_
            rintro e w2 ⟨v, rfl, hsl, hb2⟩
            rw [Int.toNat_natCast, HG3.out] at hsl
            have HSL := Lib.hid hsl
            have HB2 := Lib.hid hb2
            clear hsl hb2
            go_wp2_with fail
            go_ret
            have hs := HBL2.out.size
            exact ⟨_, rfl, HSL.out.more hs (Nat.le_refl _), HBL2.out.trans (HB2.out.mono hs)⟩
          · have hb2 : ((b : Int) != 0) = true := by simp; omega
            have hb3 : ¬ (b : Int) = 0 := by omega
            have hb4 : ((b : Int) == 0) = false := beq_false_of_ne hb3
            have hr : (a : Int).tmod (b : Int) = ((a % b : Nat) : Int) := by rw [Int.tmod_eq_emod_of_nonneg (by omega)]; rfl
            have hlt := Nat.mod_lt a hb0
            go_wp2_with fail
            go_quiet (fail)
            go_wp2_with fail
            go_roundw
            case rel => exact ⟨b, a % b, rfl, rfl, hb1, by omega, by rw [gcd_step]; exact HG2.out, below_drewN HBL2.out _⟩
            case measure => simp [intOf]; omega
end Go.Proofs.Ytdolhanniiejfaa
/- The contract of Gcd of the reference; the walk of NatDivisors, out of the contract of shortened. -/
namespace Go.Proofs.Ytdolhanniiejfaa
open Go.ChangeShapes Go.WideShapes Go.RowKit
set_option linter.unusedVariables false
set_option maxRecDepth 100000

def ResIn (w : World) (N : Nat) (err : Int) (e : Ending) (w' : World) : Prop :=
  ∃ v, e = .returned (.tuple #[v, .int .i64 err]) ∧ In w' v (limbs N) ∧ Below w.heap.size w w'
theorem ResIn.none {w w' : World} {N : Nat} {err err' : Int} {e : Ending} (hN : N = 0) (he : err = err') (h : e = .returned (.tuple #[.slice none 0 0, .int .i64 err'])) (hb : Below w.heap.size w w') : ResIn w N err e w' := by
  subst hN he h
  exact ⟨_, rfl, by rw [limbs_zero]; exact In.nil _, hb⟩
theorem valid_back {xs : List Int} (h : validB xs = true) : limbs (nval xs).toNat = xs := (nrm_limbs (valid_nrm h)).symm

end Go.Proofs.Ytdolhanniiejfaa
/- Contracts of Of, Int, limb of the reference. -/
namespace Go.Proofs.Ytdolhanniiejfaa
open Go.ChangeShapes Go.WideShapes Go.RowKit
set_option linter.unusedVariables false
set_option maxRecDepth 100000

theorem int_split {xs : List Int} {k : Nat} (hk : k ≤ xs.length) (hx : lok xs = true) : nval (xs.drop (xs.length - k)) * 1000000000 ^ (xs.length - k) ≤ nval xs := by
  have e := nval_append (xs.take (xs.length - k)) (xs.drop (xs.length - k))
  rw [List.take_append_drop, List.length_take, Nat.min_eq_left (by omega)] at e
  have h := nval_nonneg (lok_take hx (xs.length - k))
  rw [Int.mul_comm]; omega

end Go.Proofs.Ytdolhanniiejfaa
