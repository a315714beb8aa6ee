/- The contract of nat.addTimes. -/
import Derived.Test.YtmbpcjnlniidkaaDoorNatC
namespace Go.Proofs.YtmbpcjnlniidkaaDoor
open Go.ChangeShapes Go.WideShapes Go.RowKit
set_option linter.unusedVariables false

/-- Of the world, block g alone has turned. -/
structure Only (g : Nat) (w w' : World) : Prop where
  os : w'.os = w.os
  tape : w'.tape = w.tape
  output : w'.output = w.output
  size : w'.heap.size = w.heap.size
  block : ∀ k, k ≠ g → w'.heap[k]? = w.heap[k]?
theorem Only.refl (g : Nat) (w : World) : Only g w w := ⟨rfl, rfl, rfl, rfl, fun _ _ => rfl⟩
theorem Only.trans {g : Nat} {a b c : World} (h : Only g a b) (k : Only g b c) : Only g a c :=
  ⟨k.os.trans h.os, k.tape.trans h.tape, k.output.trans h.output, k.size.trans h.size, fun i hi => (k.block i hi).trans (h.block i hi)⟩
theorem Only.setCell {g : Nat} {a w : World} (h : Only g a w) {p : Addr} (hp : p.block = g) (u : Value) : Only g a (w.setCell p u) :=
  h.trans ⟨rfl, rfl, rfl, by simp [World.setCell], fun k hk => Below.heap_setCell _ _ _ _ (by omega)⟩
theorem Only.toBelow {g B : Nat} {w w' : World} (h : Only g w w') (hB : B ≤ g) : Below B w w' :=
  ⟨h.os, h.tape, h.output, by rw [h.size]; omega, fun k hk => h.block k (by omega)⟩
theorem Only.holds {g : Nat} {w w' : World} (h : Only g w w') {lo hi : Nat} {A : Option Addr} {zs : List Int} (hS : Holds w lo hi A zs) (hg : g < lo ∨ hi ≤ g) : Holds w' lo hi A zs :=
  hS.keep fun k h1 h2 => h.block k (by omega)
theorem Only.row {g k : Nat} {w w' : World} (h : Only g w w') {zs : List Int} (hR : Row w k zs) (hk : k ≠ g) : Row w' k zs := hR.keep (h.block k hk)

/-- D laid over Z from place off on. -/
def laid (Z : List Int) (off : Nat) (D : List Int) : List Int := Z.take off ++ (D ++ Z.drop (off + D.length))
theorem laid_nil (Z : List Int) (off : Nat) : laid Z off [] = Z := by simp [laid]
theorem laid_length {Z : List Int} {off : Nat} {D : List Int} (h : off + D.length ≤ Z.length) : (laid Z off D).length = Z.length := by simp [laid]; omega
theorem laid_next {Z : List Int} {off : Nat} {D : List Int} (h : off + D.length ≤ Z.length) (j : Nat) : (laid Z off D)[off + D.length + j]? = Z[off + D.length + j]? := by
  unfold laid
  rw [List.getElem?_append_right (by rw [List.length_take]; omega), List.length_take, Nat.min_eq_left (by omega), List.getElem?_append_right (by omega), List.getElem?_drop]
  congr 1; omega
theorem laid_before {Z : List Int} {off : Nat} {D : List Int} (h : off + D.length ≤ Z.length) {j : Nat} (hj : j < off) : (laid Z off D)[j]? = Z[j]? := by
  unfold laid
  rw [List.getElem?_append_left (by rw [List.length_take]; omega), List.getElem?_take, if_pos hj]
theorem laid_in {Z : List Int} {off : Nat} {D : List Int} (h : off + D.length ≤ Z.length) {j : Nat} (hj : j < D.length) : (laid Z off D)[off + j]? = D[j]? := by
  unfold laid
  rw [List.getElem?_append_right (by rw [List.length_take]; omega), List.length_take, Nat.min_eq_left (by omega), List.getElem?_append_left (by omega)]
  congr 1; omega
theorem laid_set {Z : List Int} {off : Nat} {D : List Int} (h : off + D.length < Z.length) (v : Int) : (laid Z off D).set (off + D.length) v = laid Z off (D ++ [v]) := by
  unfold laid
  have e1 : (Z.take off).length = off := by rw [List.length_take]; omega
  rw [List.set_append_right _ _ (by omega), e1, Nat.add_sub_cancel_left, List.set_append_right _ _ (Nat.le_refl _), Nat.sub_self]
  rw [List.length_append, List.append_assoc]
  congr 2
  rw [List.drop_eq_getElem_cons (by omega)]
  rfl

/-- The limbs of s + n * a + c; what is carried into the last one stays there. -/
def addT : List Int → List Int → Int → Int → List Int
  | [], _, _, _ => []
  | [z], _, _, c => [z + c]
  | x :: y :: s, a, n, c => (c + x + n * a.headD 0) % 1000000000 :: addT (y :: s) a.tail n ((c + x + n * a.headD 0) / 1000000000)
theorem addT_length (s : List Int) : ∀ (a : List Int) (n c : Int), (addT s a n c).length = s.length := by
  induction s with
  | nil => intro a n c; rfl
  | cons x s ih =>
    intro a n c
    cases s with
    | nil => rfl
    | cons y s => rw [addT, List.length_cons, ih]; rfl
theorem head_tail (a : List Int) : nval a = a.headD 0 + 1000000000 * nval a.tail := by cases a <;> simp [nval]
theorem addT_val (s : List Int) : ∀ (a : List Int) (n c : Int), a.length < s.length → nval (addT s a n c) = nval s + n * nval a + c := by
  induction s with
  | nil => intro a n c h; simp at h
  | cons x s ih =>
    intro a n c h
    cases s with
    | nil => obtain rfl : a = [] := List.eq_nil_of_length_eq_zero (by simp at h; simp [h]); simp [addT, nval]
    | cons y s =>
      have e := head_tail a
      have i := ih a.tail n ((c + x + n * a.headD 0) / 1000000000) (by simp at h ⊢; omega)
      rw [addT, nval, i, e, nval.eq_2 x, Int.mul_add n]
      have e2 : n * (1000000000 * nval a.tail) = 1000000000 * (n * nval a.tail) := by rw [Int.mul_left_comm]
      rw [e2]
      obtain ⟨p, hp⟩ : ∃ p, p = n * a.headD 0 := ⟨_, rfl⟩
      obtain ⟨q, hq⟩ : ∃ q, q = n * nval a.tail := ⟨_, rfl⟩
      obtain ⟨r, hr⟩ : ∃ r, r = nval (y :: s) := ⟨_, rfl⟩
      rw [← hp, ← hq, ← hr]
      omega
theorem addT_lok (s : List Int) : ∀ (a : List Int) (n c : Int), lok (addT s a n c).dropLast = true := by
  induction s with
  | nil => intro a n c; rfl
  | cons x s ih =>
    intro a n c
    cases s with
    | nil => rfl
    | cons y s =>
      rw [addT]
      have hl := addT_length (y :: s) a.tail n ((c + x + n * a.headD 0) / 1000000000)
      rw [List.dropLast_cons_of_ne_nil (by intro h; rw [h] at hl; simp at hl), lok_cons]
      exact ⟨by omega, ih _ _ _⟩
theorem addT_step {S A : List Int} {k : Nat} {x : Int} (n c : Int) (hx : S[k]? = some x) (hk : k + 1 < S.length) :
    addT (S.drop k) (A.drop k) n c = (c + x + n * A.getD k 0) % 1000000000 :: addT (S.drop (k + 1)) (A.drop (k + 1)) n ((c + x + n * A.getD k 0) / 1000000000) := by
  have hk1 : k < S.length := by omega
  rw [List.getElem?_eq_getElem hk1] at hx
  cases hx
  rw [List.drop_eq_getElem_cons hk1, List.drop_eq_getElem_cons hk, addT, ← List.drop_eq_getElem_cons hk]
  have e1 : (A.drop k).headD 0 = A.getD k 0 := by
    rw [List.headD_eq_head?_getD, List.head?_drop, List.getD_eq_getElem?_getD]
  have e2 : (A.drop k).tail = A.drop (k + 1) := by rw [List.tail_drop]
  rw [e1, e2]
theorem mul_bd {n a : Int} (h1 : -1000000000 < n) (h2 : n < 1000000000) (h3 : 0 ≤ a) (h4 : a < 1000000000) : -999999998000000001 ≤ n * a ∧ n * a ≤ 999999998000000001 := by
  have e1 : n * a ≤ 999999999 * a := Int.mul_le_mul_of_nonneg_right (by omega) h3
  have e2 : (-999999999) * a ≤ n * a := Int.mul_le_mul_of_nonneg_right (by omega) h3
  omega

set_option maxHeartbeats 800000 in
theorem nat_addTimes (Z S xs : List Int) (n : Int) (g off c c2 lo hi : Nat) (A : Option Addr) (w : World)
    (hR : Row w g Z) (hZ : off + S.length ≤ Z.length) (hS : ∀ j, j < S.length → Z[off + j]? = S[j]?) (hA : Holds w lo hi A xs) (hg : g < lo ∨ hi ≤ g)
    (hlen : xs.length < S.length) (hSl : S.length ≤ 1000000) (hSk : lok S.dropLast = true) (hlast : ∀ z, S[S.length - 1]? = some z → -4000000000000000000 < z ∧ z < 4000000000000000000)
    (hxk : lok xs = true) (n1 : -1000000000 < n) (n2 : n < 1000000000) :
    Calls Tryd.prog 48 #[.slice (some ⟨g, off, none⟩) S.length c, .slice A xs.length c2, .int .i64 n] w
      fun e w' => e = .returned (.tuple #[]) ∧ Row w' g (laid Z off (addT S xs n 0)) ∧ Only g w w' := by
  have HR := Lib.hid hR
  have HS := Lib.hid hS
  have HA := Lib.hid hA
  have HK := Lib.hid hSk
  have HX := Lib.hid hxk
  have HL := Lib.hid hlast
  have e1 : (S.length : Int) - 1 = ((S.length - 1 : Nat) : Int) := by omega
  clear hR hS hA hSk hxk hlast
  go_enter Tryd.func48, Tryd.ntmps48
  go_wp2_with fail
  go_loopw [7, 13] (fun cv i wr => ∃ (k : Nat) (cc : Int) (D : List Int), k + 1 ≤ S.length ∧ i = .int .i64 k ∧ cv = .int .i64 cc ∧ -1000000000 ≤ cc ∧ cc < 1000000000 ∧ D.length = k ∧
      addT S xs n 0 = D ++ addT (S.drop k) (xs.drop k) n cc ∧ Row wr g (laid Z off D) ∧ Only g w wr) (fun _ i _ => S.length - (intOf i).toNat)
  case atStart => exact ⟨0, 0, [], by omega, rfl, rfl, by omega, by omega, rfl, rfl, by rw [laid_nil]; exact HR.out, Only.refl _ _⟩
  case round =>
    obtain ⟨k, cc, D, hk, rfl, rfl, c1, c3, hD, hadd, hrow, honly⟩ := hrel
    obtain ⟨z, hz⟩ : ∃ z, S[k]? = some z := ⟨_, List.getElem?_eq_getElem (by omega)⟩
    have hcell := hrow.cell (i := off + k) (z := z) (by have := laid_next (Z := Z) (off := off) (D := D) (by omega) 0; rw [hD] at this; simp only [Nat.add_zero] at this; rw [this, HS.out k (by omega), hz])
    have hfr := hrow.frozen (off + k)
    have HADD := Lib.hid hadd
    have HROW := Lib.hid hrow
    have HO := Lib.hid honly
    have HZ := Lib.hid hz
    have HD := Lib.hid hD
    clear hadd hrow honly hz hD
    rcases Nat.lt_or_ge (k + 1) S.length with hlt | hge
    · have hzb := lok_at HK.out (k := k) (z := z) (by rw [List.getElem?_dropLast, if_pos (by omega)]; exact HZ.out)
      obtain ⟨z1, z2⟩ := hzb
      have hst : ∀ y, xs.getD k 0 = y → addT S xs n 0 = (D ++ [(cc + z + n * y) % 1000000000]) ++ addT (S.drop (k + 1)) (xs.drop (k + 1)) n ((cc + z + n * y) / 1000000000) := by
        intro y hy
        rw [HADD.out, addT_step n cc HZ.out (by omega), hy, List.append_assoc]; rfl
      have hrw : ∀ y : Int, Row (wr.setCell ⟨g, off + k, none⟩ (.int .i64 y)) g (laid Z off (D ++ [y])) := by
        intro y
        have := HROW.out.store (off + k) y
        have hD := HD.out
        rw [← hD, laid_set (by omega)] at this
        rw [← hD]; exact this
      have HST := Lib.hid hst
      have HRW := Lib.hid hrw
      clear hst hrw
      rcases Nat.lt_or_ge k xs.length with hkx | hkx
      · obtain ⟨y, hy⟩ : ∃ y, xs[k]? = some y := ⟨_, List.getElem?_eq_getElem hkx⟩
        obtain ⟨b2, off2, rfl, _, _, hcell2⟩ := (HO.out.holds HA.out hg) k y hy
        have hyb := lok_at HX.out hy
        have hp := mul_bd n1 n2 hyb.1 hyb.2
        have hyd : xs.getD k 0 = y := by rw [List.getD_eq_getElem?_getD, hy]; rfl
        have HY := Lib.hid hyd
        clear hy hyb hyd
        obtain ⟨p1, p2⟩ := hp
        have q1 : -9223372036854775808 ≤ cc + z + n * y := by omega
        have q2 : cc + z + n * y ≤ 9223372036854775807 := by omega
        have q3 : -1000000000 ≤ (cc + z + n * y) / 1000000000 := by omega
        have q4 : (cc + z + n * y) / 1000000000 < 1000000000 := by omega
        go_wp2_with (go_at_call 59; refine (nat_split _ _ q1 q2).mono ?_; rintro e w' ⟨rfl, rfl⟩)
        go_roundw
        case rel => exact ⟨k + 1, _, D ++ [(cc + z + n * y) % 1000000000], by omega, by go_num, rfl, q3, q4, by rw [List.length_append, HD.out]; rfl, HST.out y HY.out, HRW.out _, HO.out.setCell rfl _⟩
        case measure => simp [intOf]; omega
      · have hyd : xs.getD k 0 = 0 := by rw [List.getD_eq_getElem?_getD, List.getElem?_eq_none hkx]; rfl
        have HY := Lib.hid hyd
        clear hyd
        have q1 : -9223372036854775808 ≤ cc + z := by omega
        have q2 : cc + z ≤ 9223372036854775807 := by omega
        have q3 : -1000000000 ≤ (cc + z) / 1000000000 := by omega
        have q4 : (cc + z) / 1000000000 < 1000000000 := by omega
        go_wp2_with (go_at_call 59; refine (nat_split _ _ q1 q2).mono ?_; rintro e w' ⟨rfl, rfl⟩)
        go_roundw
        case rel =>
          have h1 := HST.out 0 HY.out
          rw [Int.mul_zero, Int.add_zero] at h1
          exact ⟨k + 1, _, D ++ [(cc + z) % 1000000000], by omega, by go_num, rfl, q3, q4, by rw [List.length_append, HD.out]; rfl, h1, HRW.out _, HO.out.setCell rfl _⟩
        case measure => simp [intOf]; omega
    · obtain rfl : k = S.length - 1 := by omega
      have hzl := HL.out z HZ.out
      obtain ⟨z1, z2⟩ := hzl
      have hadd2 : addT S xs n 0 = D ++ [z + cc] := by
        have e : S.drop (S.length - 1) = [z] := by
          have h := HZ.out
          have hk1 : S.length - 1 < S.length := by omega
          rw [List.getElem?_eq_getElem hk1] at h
          cases h
          rw [List.drop_eq_getElem_cons hk1, List.drop_eq_nil_of_le (by omega)]
        rw [HADD.out, e]; rfl
      have hrw : ∀ y : Int, Row (wr.setCell ⟨g, off + (S.length - 1), none⟩ (.int .i64 y)) g (laid Z off (D ++ [y])) := by
        intro y
        have := HROW.out.store (off + (S.length - 1)) y
        have hD := HD.out
        rw [← hD, laid_set (by omega)] at this
        rw [← hD]; exact this
      have HRW := Lib.hid hrw
      have HA2 := Lib.hid hadd2
      clear hrw hadd2
      go_wp2_with fail
      exact bodyPost_end (v := .tuple #[]) (by simp [results, Tryd.results48, go_sem]) rfl ⟨rfl, by rw [HA2.out]; exact HRW.out _, HO.out.setCell rfl _⟩
#print axioms nat_addTimes
end Go.Proofs.YtmbpcjnlniidkaaDoor
