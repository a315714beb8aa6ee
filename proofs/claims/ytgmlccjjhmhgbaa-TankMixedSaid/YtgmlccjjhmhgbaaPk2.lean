/- Several texts in one: NatD, NatE, NatF, NatG. -/
import Derived.Test.YtgmlccjjhmhgbaaPk1
import Derived.Laws.CopyOwn
/- The contract of nat.addTimes. -/
namespace Go.Proofs.Ytgmlccjjhmhgbaa
open Go.ChangeShapes Go.WideShapes Go.RowKit
set_option linter.unusedVariables false
set_option maxRecDepth 100000

/-- Of the world, block g alone has turned. -/
structure Only (g : Nat) (w w' : World) : Prop where
  os : w'.os = w.os
  tape : w'.tape = w.tape
  output : w'.output = w.output
  size : w'.heap.size = w.heap.size
  block : ∀ k, k ≠ g → w'.heap[k]? = w.heap[k]?
theorem Only.refl (g : Nat) (w : World) : Only g w w := ⟨rfl, rfl, rfl, rfl, fun _ _ => rfl⟩
theorem Only.trans {g : Nat} {a b c : World} (h : Only g a b) (k : Only g b c) : Only g a c :=
  ⟨k.os.trans h.os, k.tape.trans h.tape, k.output.trans h.output, k.size.trans h.size, fun i hi => (k.block i hi).trans (h.block i hi)⟩
theorem Only.setCell {g : Nat} {a w : World} (h : Only g a w) {p : Addr} (hp : p.block = g) (u : Value) : Only g a (w.setCell p u) :=
  h.trans ⟨rfl, rfl, rfl, by simp [World.setCell], fun k hk => Below.heap_setCell _ _ _ _ (by omega)⟩
theorem Only.toBelow {g B : Nat} {w w' : World} (h : Only g w w') (hB : B ≤ g) : Below B w w' :=
  ⟨h.os, h.tape, h.output, by rw [h.size]; omega, fun k hk => h.block k (by omega)⟩
theorem Only.holds {g : Nat} {w w' : World} (h : Only g w w') {lo hi : Nat} {A : Option Addr} {zs : List Int} (hS : Holds w lo hi A zs) (hg : g < lo ∨ hi ≤ g) : Holds w' lo hi A zs :=
  hS.keep fun k h1 h2 => h.block k (by omega)
theorem Only.row {g k : Nat} {w w' : World} (h : Only g w w') {zs : List Int} (hR : Row w k zs) (hk : k ≠ g) : Row w' k zs := hR.keep (h.block k hk)

/-- D laid over Z from place off on. -/
def laid (Z : List Int) (off : Nat) (D : List Int) : List Int := Z.take off ++ (D ++ Z.drop (off + D.length))
theorem laid_nil (Z : List Int) (off : Nat) : laid Z off [] = Z := by simp [laid]
theorem laid_length {Z : List Int} {off : Nat} {D : List Int} (h : off + D.length ≤ Z.length) : (laid Z off D).length = Z.length := by simp [laid]; omega
theorem laid_next {Z : List Int} {off : Nat} {D : List Int} (h : off + D.length ≤ Z.length) (j : Nat) : (laid Z off D)[off + D.length + j]? = Z[off + D.length + j]? := by
  unfold laid
  rw [List.getElem?_append_right (by rw [List.length_take]; omega), List.length_take, Nat.min_eq_left (by omega), List.getElem?_append_right (by omega), List.getElem?_drop]
  congr 1; omega
theorem laid_before {Z : List Int} {off : Nat} {D : List Int} (h : off + D.length ≤ Z.length) {j : Nat} (hj : j < off) : (laid Z off D)[j]? = Z[j]? := by
  unfold laid
  rw [List.getElem?_append_left (by rw [List.length_take]; omega), List.getElem?_take, if_pos hj]
theorem laid_in {Z : List Int} {off : Nat} {D : List Int} (h : off + D.length ≤ Z.length) {j : Nat} (hj : j < D.length) : (laid Z off D)[off + j]? = D[j]? := by
  unfold laid
  rw [List.getElem?_append_right (by rw [List.length_take]; omega), List.length_take, Nat.min_eq_left (by omega), List.getElem?_append_left (by omega)]
  congr 1; omega
theorem laid_set {Z : List Int} {off : Nat} {D : List Int} (h : off + D.length < Z.length) (v : Int) : (laid Z off D).set (off + D.length) v = laid Z off (D ++ [v]) := by
  unfold laid
  have e1 : (Z.take off).length = off := by rw [List.length_take]; omega
  rw [List.set_append_right _ _ (by omega), e1, Nat.add_sub_cancel_left, List.set_append_right _ _ (Nat.le_refl _), Nat.sub_self]
  rw [List.length_append, List.append_assoc]
  congr 2
  rw [List.drop_eq_getElem_cons (by omega)]
  rfl

/-- The limbs of s + n * a + c; what is carried into the last one stays there. -/
def addT : List Int → List Int → Int → Int → List Int
  | [], _, _, _ => []
  | [z], _, _, c => [z + c]
  | x :: y :: s, a, n, c => (c + x + n * a.headD 0) % 1000000000 :: addT (y :: s) a.tail n ((c + x + n * a.headD 0) / 1000000000)
theorem addT_length (s : List Int) : ∀ (a : List Int) (n c : Int), (addT s a n c).length = s.length := by
  induction s with
  | nil => intro a n c; rfl
  | cons x s ih =>
    intro a n c
    cases s with
    | nil => rfl
    | cons y s => rw [addT, List.length_cons, ih]; rfl
theorem head_tail (a : List Int) : nval a = a.headD 0 + 1000000000 * nval a.tail := by cases a <;> simp [nval]
theorem addT_val (s : List Int) : ∀ (a : List Int) (n c : Int), a.length < s.length → nval (addT s a n c) = nval s + n * nval a + c := by
  induction s with
  | nil => intro a n c h; simp at h
  | cons x s ih =>
    intro a n c h
    cases s with
    | nil => obtain rfl : a = [] := List.eq_nil_of_length_eq_zero (by simp at h; simp [h]); simp [addT, nval]
    | cons y s =>
      have e := head_tail a
      have i := ih a.tail n ((c + x + n * a.headD 0) / 1000000000) (by simp at h ⊢; omega)
      rw [addT, nval, i, e, nval.eq_2 x, Int.mul_add n]
      have e2 : n * (1000000000 * nval a.tail) = 1000000000 * (n * nval a.tail) := by rw [Int.mul_left_comm]
      rw [e2]
      obtain ⟨p, hp⟩ : ∃ p, p = n * a.headD 0 := ⟨_, rfl⟩
      obtain ⟨q, hq⟩ : ∃ q, q = n * nval a.tail := ⟨_, rfl⟩
      obtain ⟨r, hr⟩ : ∃ r, r = nval (y :: s) := ⟨_, rfl⟩
      rw [← hp, ← hq, ← hr]
      omega
theorem addT_lok (s : List Int) : ∀ (a : List Int) (n c : Int), lok (addT s a n c).dropLast = true := by
  induction s with
  | nil => intro a n c; rfl
  | cons x s ih =>
    intro a n c
    cases s with
    | nil => rfl
    | cons y s =>
      rw [addT]
      have hl := addT_length (y :: s) a.tail n ((c + x + n * a.headD 0) / 1000000000)
      rw [List.dropLast_cons_of_ne_nil (by intro h; rw [h] at hl; simp at hl), lok_cons]
      exact ⟨by omega, ih _ _ _⟩
theorem addT_step {S A : List Int} {k : Nat} {x : Int} (n c : Int) (hx : S[k]? = some x) (hk : k + 1 < S.length) :
    addT (S.drop k) (A.drop k) n c = (c + x + n * A.getD k 0) % 1000000000 :: addT (S.drop (k + 1)) (A.drop (k + 1)) n ((c + x + n * A.getD k 0) / 1000000000) := by
  have hk1 : k < S.length := by omega
  rw [List.getElem?_eq_getElem hk1] at hx
  cases hx
  rw [List.drop_eq_getElem_cons hk1, List.drop_eq_getElem_cons hk, addT, ← List.drop_eq_getElem_cons hk]
  have e1 : (A.drop k).headD 0 = A.getD k 0 := by
    rw [List.headD_eq_head?_getD, List.head?_drop, List.getD_eq_getElem?_getD]
  have e2 : (A.drop k).tail = A.drop (k + 1) := by rw [List.tail_drop]
  rw [e1, e2]
theorem mul_bd {n a : Int} (h1 : -1000000000 < n) (h2 : n < 1000000000) (h3 : 0 ≤ a) (h4 : a < 1000000000) : -999999998000000001 ≤ n * a ∧ n * a ≤ 999999998000000001 := by
  have e1 : n * a ≤ 999999999 * a := Int.mul_le_mul_of_nonneg_right (by omega) h3
  have e2 : (-999999999) * a ≤ n * a := Int.mul_le_mul_of_nonneg_right (by omega) h3
  omega

set_option maxHeartbeats 800000 in
theorem nat_addTimes (Z S xs : List Int) (n : Int) (g off c c2 lo hi : Nat) (A : Option Addr) (w : World)
    (hR : Row w g Z) (hZ : off + S.length ≤ Z.length) (hS : ∀ j, j < S.length → Z[off + j]? = S[j]?) (hA : Holds w lo hi A xs) (hg : g < lo ∨ hi ≤ g)
    (hlen : xs.length < S.length) (hSl : S.length ≤ 1000000) (hSk : lok S.dropLast = true) (hlast : ∀ z, S[S.length - 1]? = some z → -4000000000000000000 < z ∧ z < 4000000000000000000)
    (hxk : lok xs = true) (n1 : -1000000000 < n) (n2 : n < 1000000000) :
    Calls Try.prog 77 #[.slice (some ⟨g, off, none⟩) S.length c, .slice A xs.length c2, .int .i64 n] w
      fun e w' => e = .returned (.tuple #[]) ∧ Row w' g (laid Z off (addT S xs n 0)) ∧ Only g w w' := by
  have HR := Lib.hid hR
  have HS := Lib.hid hS
  have HA := Lib.hid hA
  have HK := Lib.hid hSk
  have HX := Lib.hid hxk
  have HL := Lib.hid hlast
  have e1 : (S.length : Int) - 1 = ((S.length - 1 : Nat) : Int) := by omega
  clear hR hS hA hSk hxk hlast
  go_enter Try.func77, Try.ntmps77
  go_wp2_with fail
  go_loopw [7, 13] (fun cv i wr => ∃ (k : Nat) (cc : Int) (D : List Int), k + 1 ≤ S.length ∧ i = .int .i64 k ∧ cv = .int .i64 cc ∧ -1000000000 ≤ cc ∧ cc < 1000000000 ∧ D.length = k ∧
      addT S xs n 0 = D ++ addT (S.drop k) (xs.drop k) n cc ∧ Row wr g (laid Z off D) ∧ Only g w wr) (fun _ i _ => S.length - (intOf i).toNat)
  case atStart => exact ⟨0, 0, [], by omega, rfl, rfl, by omega, by omega, rfl, rfl, by rw [laid_nil]; exact HR.out, Only.refl _ _⟩
  case round =>
    obtain ⟨k, cc, D, hk, rfl, rfl, c1, c3, hD, hadd, hrow, honly⟩ := hrel
    obtain ⟨z, hz⟩ : ∃ z, S[k]? = some z := ⟨_, List.getElem?_eq_getElem (by omega)⟩
    have hcell := hrow.cell (i := off + k) (z := z) (by have := laid_next (Z := Z) (off := off) (D := D) (by omega) 0; rw [hD] at this; simp only [Nat.add_zero] at this; rw [this, HS.out k (by omega), hz])
    have hfr := hrow.frozen (off + k)
    have HADD := Lib.hid hadd
    have HROW := Lib.hid hrow
    have HO := Lib.hid honly
    have HZ := Lib.hid hz
    have HD := Lib.hid hD
    clear hadd hrow honly hz hD
    rcases Nat.lt_or_ge (k + 1) S.length with hlt | hge
    · have hzb := lok_at HK.out (k := k) (z := z) (by rw [List.getElem?_dropLast, if_pos (by omega)]; exact HZ.out)
      obtain ⟨z1, z2⟩ := hzb
      have hst : ∀ y, xs.getD k 0 = y → addT S xs n 0 = (D ++ [(cc + z + n * y) % 1000000000]) ++ addT (S.drop (k + 1)) (xs.drop (k + 1)) n ((cc + z + n * y) / 1000000000) := by
        intro y hy
        rw [HADD.out, addT_step n cc HZ.out (by omega), hy, List.append_assoc]; rfl
      have hrw : ∀ y : Int, Row (wr.setCell ⟨g, off + k, none⟩ (.int .i64 y)) g (laid Z off (D ++ [y])) := by
        intro y
        have := HROW.out.store (off + k) y
        have hD := HD.out
        rw [← hD, laid_set (by omega)] at this
        rw [← hD]; exact this
      have HST := Lib.hid hst
      have HRW := Lib.hid hrw
      clear hst hrw
      rcases Nat.lt_or_ge k xs.length with hkx | hkx
      · obtain ⟨y, hy⟩ : ∃ y, xs[k]? = some y := ⟨_, List.getElem?_eq_getElem hkx⟩
        obtain ⟨b2, off2, rfl, _, _, hcell2⟩ := (HO.out.holds HA.out hg) k y hy
        have hyb := lok_at HX.out hy
        have hp := mul_bd n1 n2 hyb.1 hyb.2
        have hyd : xs.getD k 0 = y := by rw [List.getD_eq_getElem?_getD, hy]; rfl
        have HY := Lib.hid hyd
        clear hy hyb hyd
        obtain ⟨p1, p2⟩ := hp
        have q1 : -9223372036854775808 ≤ cc + z + n * y := by omega
        have q2 : cc + z + n * y ≤ 9223372036854775807 := by omega
        have q3 : -1000000000 ≤ (cc + z + n * y) / 1000000000 := by omega
        have q4 : (cc + z + n * y) / 1000000000 < 1000000000 := by omega
        go_wp2_with (go_at_call 91; refine (nat_split _ _ q1 q2).mono ?_; rintro e w' ⟨rfl, rfl⟩)
        go_roundw
        case rel => exact ⟨k + 1, _, D ++ [(cc + z + n * y) % 1000000000], by omega, by go_num, rfl, q3, q4, by rw [List.length_append, HD.out]; rfl, HST.out y HY.out, HRW.out _, HO.out.setCell rfl _⟩
        case measure => simp [intOf]; omega
      · have hyd : xs.getD k 0 = 0 := by rw [List.getD_eq_getElem?_getD, List.getElem?_eq_none hkx]; rfl
        have HY := Lib.hid hyd
        clear hyd
        have q1 : -9223372036854775808 ≤ cc + z := by omega
        have q2 : cc + z ≤ 9223372036854775807 := by omega
        have q3 : -1000000000 ≤ (cc + z) / 1000000000 := by omega
        have q4 : (cc + z) / 1000000000 < 1000000000 := by omega
        go_wp2_with (go_at_call 91; refine (nat_split _ _ q1 q2).mono ?_; rintro e w' ⟨rfl, rfl⟩)
        go_roundw
        case rel =>
          have h1 := HST.out 0 HY.out
          rw [Int.mul_zero, Int.add_zero] at h1
          exact ⟨k + 1, _, D ++ [(cc + z) % 1000000000], by omega, by go_num, rfl, q3, q4, by rw [List.length_append, HD.out]; rfl, h1, HRW.out _, HO.out.setCell rfl _⟩
        case measure => simp [intOf]; omega
    · obtain rfl : k = S.length - 1 := by omega
      have hzl := HL.out z HZ.out
      obtain ⟨z1, z2⟩ := hzl
      have hadd2 : addT S xs n 0 = D ++ [z + cc] := by
        have e : S.drop (S.length - 1) = [z] := by
          have h := HZ.out
          have hk1 : S.length - 1 < S.length := by omega
          rw [List.getElem?_eq_getElem hk1] at h
          cases h
          rw [List.drop_eq_getElem_cons hk1, List.drop_eq_nil_of_le (by omega)]
        rw [HADD.out, e]; rfl
      have hrw : ∀ y : Int, Row (wr.setCell ⟨g, off + (S.length - 1), none⟩ (.int .i64 y)) g (laid Z off (D ++ [y])) := by
        intro y
        have := HROW.out.store (off + (S.length - 1)) y
        have hD := HD.out
        rw [← hD, laid_set (by omega)] at this
        rw [← hD]; exact this
      have HRW := Lib.hid hrw
      have HA2 := Lib.hid hadd2
      clear hrw hadd2
      go_wp2_with fail
      exact bodyPost_end (v := .tuple #[]) (by simp [results, Try.results77, go_sem]) rfl ⟨rfl, by rw [HA2.out]; exact HRW.out _, HO.out.setCell rfl _⟩
end Go.Proofs.Ytgmlccjjhmhgbaa
/- Contracts of nat.copied, nat.times. -/
namespace Go.Proofs.Ytgmlccjjhmhgbaa
open Go.ChangeShapes Go.WideShapes Go.RowKit
set_option linter.unusedVariables false
set_option maxRecDepth 100000

/-- xs, filled with zeros up to n. -/
def padL (xs : List Int) (n : Nat) : List Int := xs ++ List.replicate (n - xs.length) 0
theorem padL_length {xs : List Int} {n : Nat} (h : xs.length ≤ n) : (padL xs n).length = n := by simp [padL]; omega
theorem padL_val (xs : List Int) (n : Nat) : nval (padL xs n) = nval xs := by rw [padL, nval_append, nval_zeros]; simp
theorem padL_lok {xs : List Int} (h : lok xs = true) (n : Nat) : lok (padL xs n) = true := by rw [padL, lok_append]; exact ⟨h, lok_zeros _⟩
theorem info_size : (Try.prog.info? 3).map (·.size) = some 1 := by kernel_rfl
theorem cells_ints {xs : List Int} : ∀ v ∈ xs.map (Value.int .i64), v.oneCell' = true := by
  intro v hv
  simp only [List.mem_map] at hv
  obtain ⟨x, _, rfl⟩ := hv
  rfl
theorem row_of_heap {w : World} {g : Nat} {t : TypeId} {zs : List Int} (h : w.heap[g]? = some (.cells (zs.map (Value.int .i64)).toArray t (0, 0))) : Row w g zs :=
  ⟨_, t, h, fun i z hz => by rw [List.getElem?_toArray, List.getElem?_map, hz]; rfl⟩
theorem splice_pad (xs : List Int) (n : Nat) (h : xs.length ≤ n) :
    splice ((List.replicate n (0 : Int)).map (Value.int .i64)) 0 (xs.map (Value.int .i64)) = (padL xs n).map (Value.int .i64) := by
  simp [splice, padL, List.drop_replicate]

theorem heap_of_made {w : World} {base e g n : Nat} (h : w.ownsRow base e 1 (.slice (some ⟨g, 0, none⟩) n n) n (madeCells (Value.int .i64 0).cells (n * 1)).toList) :
    w.heap[g]? = some (.cells ((List.replicate n (0 : Int)).map (Value.int .i64)).toArray e (0, 0)) := by
  obtain ⟨h1, ⟨h2, _⟩ | ⟨g', cap, cur, h2, h3, h4, h5, h6, h7, h8⟩⟩ := h
  · cases h2
  · cases h2
    rw [h4, ← made_zeros, ← h8, List.take_of_length_le (by rw [Array.length_toList]; omega), Array.toArray_toList]
theorem holds_cells {w : World} {lo hi : Nat} {A : Option Addr} {xs : List Int} (h : Holds w lo hi A xs) (hp : 0 < (xs.map (Value.int .i64)).length) :
    ∃ ad, A = some ad ∧ ∀ j v, (xs.map (Value.int .i64))[j]? = some v → w.cell? (ad.add j) = some v := by
  rw [List.length_map] at hp
  obtain ⟨b, off, rfl, _, _, _⟩ := h 0 xs[0] (List.getElem?_eq_getElem hp)
  refine ⟨_, rfl, fun j v hv => ?_⟩
  rw [List.getElem?_map] at hv
  cases hj : xs[j]? with
  | none => rw [hj] at hv; cases hv
  | some z =>
    rw [hj] at hv
    obtain rfl : Value.int .i64 z = v := by simpa using hv
    obtain ⟨b', off', e, _, _, hc⟩ := h j z hj
    cases e
    have ea : (⟨b, off, none⟩ : Addr).add j = ⟨b, off + j, none⟩ := by
      unfold Addr.add
      split
      · rename_i h; subst h; rfl
      · rfl
    rw [ea]; exact hc

theorem copied_prep {w w1 : World} {lo hi n : Nat} {A : Option Addr} {xs : List Int} {cs zs : List Value} (hS : Holds w lo hi A xs) (hh : hi ≤ w.heap.size) (hn : xs.length ≤ n)
    (hcs : cs = xs.map (Value.int .i64)) (hzs : zs = (List.replicate n (0 : Int)).map (Value.int .i64))
    (hown : w1.ownsRow w.heap.size 3 1 (.slice (some ⟨w.heap.size, 0, none⟩) n n) n (madeCells (Value.int .i64 0).cells (n * 1)).toList) (hgrow : w.grownBy w1 none) :
    Hid (w1.heap[w.heap.size]? = some (.cells zs.toArray 3 (0, 0))) ∧ Hid (Below w.heap.size w w1) ∧
    Hid (0 < cs.length → some (⟨w.heap.size, 0, none⟩ : Addr) = some ⟨w.heap.size, 0, none⟩ ∧ ∃ ad, A = some ad ∧ ∀ j v, cs[j]? = some v → w1.cell? (ad.add j) = some v) := by
  have hbel : Below w.heap.size w w1 := (Below.refl _ _).grown hgrow (Nat.le_refl _) (fun k hk => by cases hk)
  subst hcs hzs
  exact ⟨heap_of_made hown, hbel, fun hp => ⟨rfl, holds_cells (hS.below hbel hh) hp⟩⟩
theorem copied_end {w w2 : World} {n : Nat} {xs : List Int} {cs zs : List Value} (hn : xs.length ≤ n)
    (hcs : cs = xs.map (Value.int .i64)) (hzs : zs = (List.replicate n (0 : Int)).map (Value.int .i64))
    (h : w2.heap[w.heap.size]? = some (.cells (splice zs 0 cs).toArray 3 (0, 0))) : Row w2 w.heap.size (padL xs n) := by
  subst hcs hzs
  rw [splice_pad xs n hn] at h
  exact row_of_heap h

set_option maxHeartbeats 800000 in
theorem nat_copied (xs : List Int) (A : Option Addr) (c n : Nat) (lo hi : Nat) (w : World) (hS : Holds w lo hi A xs) (hh : hi ≤ w.heap.size) (hn : xs.length ≤ n) (hb : n ≤ 1000000) :
    Calls Try.prog 85 #[.slice A xs.length c, .int .i64 n] w
      fun e w' => e = .returned (.slice (some ⟨w.heap.size, 0, none⟩) n n) ∧ Row w' w.heap.size (padL xs n) ∧ Below w.heap.size w w' := by
  obtain ⟨i0, hi0, hz0, hz1, hz2⟩ := info_parts info_int
  have HS := Lib.hid hS
  obtain ⟨cs, hcs⟩ : ∃ cs, cs = xs.map (Value.int .i64) := ⟨_, rfl⟩
  obtain ⟨zs, hzs⟩ : ∃ zs, zs = (List.replicate n (0 : Int)).map (Value.int .i64) := ⟨_, rfl⟩
  have hl : cs.length = Nat.min xs.length n := by rw [hcs, List.length_map]; exact (Nat.min_eq_left hn).symm
  have hl2 : 0 + cs.length ≤ zs.length := by rw [hcs, hzs]; simp; exact hn
  have h1c : ∀ v ∈ cs, v.oneCell' = true := by rw [hcs]; exact cells_ints
  have HL := Lib.hid hl
  have HL2 := Lib.hid hl2
  have H1 := Lib.hid h1c
  have HC := Lib.hid hcs
  have HZ := Lib.hid hzs
  clear hS hcs hzs hl hl2 h1c
  go_enter Try.func85, Try.ntmps85
  go_wp2_with (first
    | (at_make; refine wpList_make_full _ rfl _ _ 31 rfl w.heap.size 3 i0 (.int .i64 0) 1 Try.underlying31 hi0 hz0 hz1 .i64 .i64 n n n rfl rfl rfl rfl (by rw [hz2]; omega) (by unfold maxLen; omega) (Nat.le_refl _) ?_; intro w1 hown hgrow; obtain ⟨HH, HB, HP⟩ := copied_prep HS.out hh hn HC.out HZ.out hown hgrow; clear hown hgrow)
    | (with_reducible refine wpList_copy_splice rfl (.tmp 8) (.tmp 9) 31 31 rfl 3 Try.underlying31 info_size _ _ _ _ _ _ rfl rfl w.heap.size 0 zs _ HH.out cs HL.out HP.out HL2.out H1.out w.heap.size w HB.out (Nat.le_refl _) ?_; intro w2 hg2 hb2; have HR := Lib.hid (copied_end hn HC.out HZ.out hg2.out); have HB2 := Lib.hid hb2; clear hg2 hb2)
    | fail)
  go_ret
  exact ⟨rfl, HR.out, HB2.out⟩

set_option maxHeartbeats 800000 in
theorem nat_times (xs : List Int) (A : Option Addr) (c : Nat) (n : Int) (lo hi : Nat) (w : World) (hS : Holds w lo hi A xs) (hh : hi ≤ w.heap.size) (hb : xs.length ≤ 100000)
    (hxk : lok xs = true) (n1 : -1000000000 < n) (n2 : n < 1000000000) :
    Calls Try.prog 86 #[.slice A xs.length c, .int .i64 n] w
      fun e w' => e = .returned (.slice (some ⟨w.heap.size, 0, none⟩) (xs.length + 1) (xs.length + 1)) ∧ Row w' w.heap.size (addT (List.replicate (xs.length + 1) 0) xs n 0) ∧ Below w.heap.size w w' := by
  obtain ⟨i0, hi0, hz0, hz1, hz2⟩ := info_parts info_int
  have HS := Lib.hid hS
  clear hS
  go_enter Try.func86, Try.ntmps86
  go_wp2_with (first
    | (at_make; refine wpList_make_full _ rfl _ _ 31 rfl w.heap.size 3 i0 (.int .i64 0) 1 Try.underlying31 hi0 hz0 hz1 .i64 .i64 _ _ (xs.length + 1) rfl rfl (by omega) (by omega) (by rw [hz2]; omega) (by unfold maxLen; omega) (Nat.le_refl _) ?_; intro w1 hown hgrow)
    | fail)
  have hrow : Row w1 w.heap.size (List.replicate (xs.length + 1) 0) := row_of_heap (heap_of_made hown)
  have hbel : Below w.heap.size w w1 := (Below.refl _ _).grown hgrow (Nat.le_refl _) (fun k hk => by cases hk)
  have HR := Lib.hid hrow
  have HB := Lib.hid hbel
  clear hrow hbel hown hgrow
  have hlen : (List.replicate (xs.length + 1) (0 : Int)).length = xs.length + 1 := by simp
  have hc := nat_addTimes (List.replicate (xs.length + 1) 0) (List.replicate (xs.length + 1) 0) xs n w.heap.size 0 (xs.length + 1) c lo hi A w1 HR.out (by simp) (fun j _ => by simp) (HS.out.below HB.out hh) (Or.inr hh) (by simp) (by simp; omega)
    (by rw [List.dropLast_replicate]; exact lok_zeros _) (fun z hz => by rw [List.getElem?_replicate] at hz; split at hz <;> simp at hz; subst hz; omega) hxk n1 n2
  rw [hlen] at hc
  have HCC := Lib.hid hc
  clear hc hlen
  go_wp2_with (go_at_call 77; refine HCC.out.mono ?_; rintro e w' ⟨rfl, hr2, ho2⟩)
  go_ret
  have e : laid (List.replicate (xs.length + 1) 0) 0 (addT (List.replicate (xs.length + 1) 0) xs n 0) = addT (List.replicate (xs.length + 1) 0) xs n 0 := by
    rw [laid, List.take_zero, List.nil_append, List.drop_eq_nil_of_le (by rw [addT_length]; simp), List.append_nil]
  rw [e] at hr2
  exact ⟨rfl, hr2, HB.out.trans (ho2.toBelow (Nat.le_refl _))⟩
end Go.Proofs.Ytgmlccjjhmhgbaa
/- Contracts of nat.Valid, of Valid and Same of the reference. -/
namespace Go.Proofs.Ytgmlccjjhmhgbaa
open Go.ChangeShapes Go.WideShapes Go.RowKit
set_option linter.unusedVariables false
set_option maxRecDepth 100000

theorem validB_long {l : List Int} (h : 48 < l.length) : validB l = false := by simp [validB]; intro h2; omega
theorem validB_bad {l : List Int} {k : Nat} {z : Int} (hz : l[k]? = some z) (h : z < 0 ∨ 1000000000 ≤ z) : validB l = false := by
  cases hv : validB l with
  | false => rfl
  | true => have := lok_at (nrm_lok (validB_iff.mp hv).2) hz; omega
theorem validB_nil : validB [] = true := rfl
theorem last_some {l : List Int} {z : Int} (hz : l[l.length - 1]? = some z) : l.getLast? = some z := by rw [List.getLast?_eq_getElem?]; exact hz
theorem validB_zero {l : List Int} (hz : l[l.length - 1]? = some 0) : validB l = false := by
  cases hv : validB l with
  | false => rfl
  | true => have := (validB_iff.mp hv).2; simp [nrm, last_some hz] at this
theorem validB_end {l : List Int} {z : Int} (h : l.length ≤ 48) (hk : lok l = true) (hz : l[l.length - 1]? = some z) (h0 : z ≠ 0) : validB l = true :=
  validB_iff.mpr ⟨h, by simp [nrm, hk, last_some hz, h0]⟩
theorem lok_take_succ {l : List Int} {k : Nat} {z : Int} (h : lok (l.take k) = true) (hz : l[k]? = some z) (h1 : 0 ≤ z) (h2 : z < 1000000000) : lok (l.take (k + 1)) = true := by
  rw [trim_step hz, lok_append]; exact ⟨h, by simp [lok, h1, h2]⟩

set_option maxHeartbeats 800000 in
theorem nat_Valid (zs : List Int) (A : Option Addr) (c : Nat) (lo hi : Nat) (w : World) (hS : Holds w lo hi A zs) (hm : zs.length ≤ 9223372036854775807) :
    Calls Try.prog 64 #[.slice A zs.length c] w fun e w' => e = .returned (.bool (validB zs)) ∧ w = w' := by
  have HS := Lib.hid hS
  clear hS
  by_cases hl : 48 < zs.length
  · have hl' : (48 : Int) < zs.length := by omega
    have hv := validB_long hl
    go_enter Try.func64, Try.ntmps64
    go_wp2
    go_ret
    rw [hv]; exact ⟨rfl, rfl⟩
  · have hl' : (zs.length : Int) ≤ 48 := by omega
    have hd : decide ((48 : Int) < (zs.length : Int)) = false := decide_eq_false (by omega)
    have hl2 : zs.length ≤ 48 := by omega
    clear hl
    go_enter Try.func64, Try.ntmps64
    go_wp2_with fail
    go_loop [9] (fun i => ∃ k : Nat, k ≤ zs.length ∧ i = .int .i64 k ∧ lok (zs.take k) = true) (fun i => zs.length - (intOf i).toNat)
    case atStart => exact ⟨0, Nat.zero_le _, rfl, rfl⟩
    case round =>
      obtain ⟨k, hk, rfl, hz⟩ := hrel
      have HK := Lib.hid hz
      clear hz
      rcases Nat.lt_or_ge k zs.length with hlt | hge
      · obtain ⟨z, hz⟩ : ∃ z, zs[k]? = some z := ⟨_, List.getElem?_eq_getElem hlt⟩
        obtain ⟨b, off, rfl, _, _, hcell⟩ := HS.out k z hz
        have HZ := Lib.hid hz
        clear hz
        rcases Int.lt_or_le z 0 with h0 | h0
        · have hv := validB_bad HZ.out (Or.inl h0)
          have HV := Lib.hid hv
          clear hv
          go_wp2_with fail
          go_ret
          rw [HV.out]; exact ⟨rfl, rfl⟩
        · rcases Int.lt_or_le z 1000000000 with h1 | h1
          · go_wp2_with fail
            go_round
            case rel => exact ⟨k + 1, by omega, by go_num, lok_take_succ HK.out HZ.out h0 h1⟩
            case measure => simp [intOf]; omega
          · have hv := validB_bad HZ.out (Or.inr h1)
            have HV := Lib.hid hv
            clear hv
            go_wp2_with fail
            go_ret
            rw [HV.out]; exact ⟨rfl, rfl⟩
      · obtain rfl : k = zs.length := by omega
        have hall : lok zs = true := by have := HK.out; rwa [List.take_length] at this
        have HALL := Lib.hid hall
        clear hall
        rcases Nat.eq_zero_or_pos zs.length with h0 | hp
        · have hn : zs = [] := List.eq_nil_of_length_eq_zero h0
          subst hn
          go_wp2_with fail
          go_ret
          rw [validB_nil]; exact ⟨rfl, rfl⟩
        · obtain ⟨z, hz⟩ : ∃ z, zs[zs.length - 1]? = some z := ⟨_, List.getElem?_eq_getElem (by omega)⟩
          obtain ⟨b, off, rfl, _, _, hcell⟩ := HS.out _ z hz
          have hne : ((zs.length : Int) == 0) = false := beq_false_of_ne (by omega)
          have e1 : (zs.length : Int) - 1 = ((zs.length - 1 : Nat) : Int) := by omega
          have HZ := Lib.hid hz
          clear hz
          by_cases h0 : z = 0
          · subst h0
            have hv := validB_zero HZ.out
            have HV := Lib.hid hv
            clear hv
            go_wp2_with fail
            go_ret
            rw [HV.out]; exact ⟨rfl, rfl⟩
          · have hv := validB_end hl2 HALL.out HZ.out h0
            have HV := Lib.hid hv
            clear hv
            have hz0 : (z == 0) = false := by simpa using h0
            have hz1 : (z != 0) = true := by simpa using h0
            go_wp2_with fail
            go_ret
            rw [HV.out]; exact ⟨rfl, rfl⟩

set_option maxHeartbeats 800000 in
theorem ref_Valid (zs : List Int) (A : Option Addr) (c : Nat) (lo hi : Nat) (w : World) (hS : Holds w lo hi A zs) (hm : zs.length ≤ 9223372036854775807) :
    Calls Try.prog 69 #[.slice A zs.length c] w fun e w' => e = .returned (.bool (validB zs)) ∧ w = w' := by
  have HS := Lib.hid hS
  clear hS
  have main : ∀ (hl2 : zs.length ≤ 48), (zs = [] ∨ ∃ z b off, z ≠ 0 ∧ zs[zs.length - 1]? = some z ∧ A = some ⟨b, off, none⟩ ∧ w.cell? ⟨b, off + (zs.length - 1), none⟩ = some (.int .i64 z)) →
      Calls Try.prog 69 #[.slice A zs.length c] w fun e w' => e = .returned (.bool (validB zs)) ∧ w = w' := by
    intro hl2 hcase
    have hd : decide ((48 : Int) < (zs.length : Int)) = false := decide_eq_false (by omega)
    have hend : lok zs = true → validB zs = true := by
      rcases hcase with h | ⟨z, b, off, h0, hz, _, _⟩
      · subst h; intro _; exact validB_nil
      · exact fun h => validB_end hl2 h hz h0
    have HE := Lib.hid hend
    clear hend
    have hstart : (zs = [] ∧ (decide ((0 : Int) < (zs.length : Int)) = false)) ∨ (∃ z b off, (z == (0 : Int)) = false ∧ A = some ⟨b, off, none⟩ ∧ w.cell? ⟨b, off + (zs.length - 1), none⟩ = some (.int .i64 z) ∧ 0 < zs.length ∧ (zs.length : Int) - 1 = ((zs.length - 1 : Nat) : Int)) := by
      rcases hcase with h | ⟨z, b, off, h0, hz, hA, hc⟩
      · subst h; exact Or.inl ⟨rfl, rfl⟩
      · have hp : 0 < zs.length := by
          rcases Nat.eq_zero_or_pos zs.length with h | h
          · have : zs = [] := List.eq_nil_of_length_eq_zero h
            subst this; simp at hz
          · exact h
        exact Or.inr ⟨z, b, off, by simpa using h0, hA, hc, hp, by omega⟩
    clear hcase
    rcases hstart with ⟨hn, _⟩ | ⟨z, b, off, h0, rfl, hcell, hp, e1⟩
    · subst hn
      go_enter Try.func69, Try.ntmps69
      go_wp2_with fail
      refine wp_loop_rounds 1 ?_
      rw [rounds_succ]
      go_wp2_with fail
      go_ret
      exact ⟨rfl, rfl⟩
    · have hp' : (0 : Int) < zs.length := by omega
      go_enter Try.func69, Try.ntmps69
      go_wp2_with fail
      go_loop [3] (fun i => ∃ k : Nat, k ≤ zs.length ∧ i = .int .i64 k ∧ lok (zs.take k) = true) (fun i => zs.length - (intOf i).toNat)
      case atStart => exact ⟨0, Nat.zero_le _, rfl, rfl⟩
      case round =>
        clear hcell e1
        obtain ⟨k, hk, rfl, hz⟩ := hrel
        have HK := Lib.hid hz
        clear hz
        rcases Nat.lt_or_ge k zs.length with hlt | hge
        · obtain ⟨z, hz⟩ : ∃ z, zs[k]? = some z := ⟨_, List.getElem?_eq_getElem hlt⟩
          obtain ⟨b', off', hA, _, _, hcell⟩ := HS.out k z hz
          cases hA
          have HZ := Lib.hid hz
          clear hz
          rcases Int.lt_or_le z 0 with h0 | h0
          · have hv := validB_bad HZ.out (Or.inl h0)
            have HV := Lib.hid hv
            clear hv
            go_wp2_with fail
            go_ret
            rw [HV.out]; exact ⟨rfl, rfl⟩
          · rcases Int.lt_or_le z 1000000000 with h1 | h1
            · go_wp2_with fail
              go_round
              case rel => exact ⟨k + 1, by omega, by go_num, lok_take_succ HK.out HZ.out h0 h1⟩
              case measure => simp [intOf]; omega
            · have hv := validB_bad HZ.out (Or.inr h1)
              have HV := Lib.hid hv
              clear hv
              go_wp2_with fail
              go_ret
              rw [HV.out]; exact ⟨rfl, rfl⟩
        · obtain rfl : k = zs.length := by omega
          have hall : lok zs = true := by have := HK.out; rwa [List.take_length] at this
          have HV := Lib.hid (HE.out hall)
          clear hall
          go_wp2_with fail
          go_ret
          rw [HV.out]; exact ⟨rfl, rfl⟩
  by_cases hl : 48 < zs.length
  · have hl' : (48 : Int) < zs.length := by omega
    have hv := validB_long hl
    clear main
    go_enter Try.func69, Try.ntmps69
    go_wp2
    go_ret
    rw [hv]; exact ⟨rfl, rfl⟩
  · rcases Nat.eq_zero_or_pos zs.length with h0 | hp
    · exact main (by omega) (Or.inl (List.eq_nil_of_length_eq_zero h0))
    · obtain ⟨z, hz⟩ : ∃ z, zs[zs.length - 1]? = some z := ⟨_, List.getElem?_eq_getElem (by omega)⟩
      obtain ⟨b, off, rfl, _, _, hcell⟩ := HS.out _ z hz
      by_cases h0 : z = 0
      · subst h0
        have hv := validB_zero hz
        have HV := Lib.hid hv
        have hp' : (0 : Int) < zs.length := by omega
        have hd : decide ((48 : Int) < (zs.length : Int)) = false := decide_eq_false (by omega)
        have e1 : (zs.length : Int) - 1 = ((zs.length - 1 : Nat) : Int) := by omega
        clear main hv hz hl
        go_enter Try.func69, Try.ntmps69
        go_wp2
        go_ret
        rw [HV.out]; exact ⟨rfl, rfl⟩
      · exact main (by omega) (Or.inr ⟨z, b, off, h0, hz, rfl, hcell⟩)

theorem same_end {xs ys : List Int} (hl : xs.length = ys.length) (h : xs.take xs.length = ys.take xs.length) : xs = ys := by
  rw [List.take_length] at h; rw [h, List.take_of_length_le (by omega)]

set_option maxHeartbeats 800000 in
theorem ref_Same (xs ys : List Int) (A B : Option Addr) (c d : Nat) (lo hi lo' hi' : Nat) (w : World) (hS : Holds w lo hi A xs) (hT : Holds w lo' hi' B ys) (hh : hi ≤ w.heap.size) (hh' : hi' ≤ w.heap.size)
    (hm : xs.length ≤ 9223372036854775807) (hm2 : ys.length ≤ 9223372036854775807) :
    Calls Try.prog 26 #[.slice A xs.length c, .slice B ys.length d] w fun e w' => e = .returned (.bool (decide (xs = ys))) ∧ Below w.heap.size w w' := by
  have HS := Lib.hid hS
  have HT := Lib.hid hT
  clear hS hT
  by_cases hl : xs.length = ys.length
  · go_enter Try.func26, Try.ntmps26
    rw [← hl]
    have HL := Lib.hid hl
    clear hl hm2
    go_wp2_with fail
    go_loopw [5] (fun i wr => ∃ k : Nat, k ≤ xs.length ∧ i = .int .i64 k ∧ xs.take k = ys.take k ∧ Below w.heap.size w wr) (fun i _ => xs.length - (intOf i).toNat)
    case atStart => exact ⟨0, Nat.zero_le _, rfl, rfl, Below.refl _ _⟩
    case round =>
      obtain ⟨k, hk, rfl, hz, hbel⟩ := hrel
      have HK := Lib.hid hz
      have HB := Lib.hid hbel
      clear hz hbel
      rcases Nat.lt_or_ge k xs.length with hlt | hge
      · obtain ⟨z, hz⟩ : ∃ z, xs[k]? = some z := ⟨_, List.getElem?_eq_getElem hlt⟩
        obtain ⟨y, hy⟩ : ∃ y, ys[k]? = some y := ⟨_, List.getElem?_eq_getElem (by have := HL.out; omega)⟩
        obtain ⟨b, off, rfl, _, _, hcell⟩ := (HS.out.below HB.out hh) k z hz
        obtain ⟨b2, off2, rfl, _, _, hcell2⟩ := (HT.out.below HB.out hh') k y hy
        have HZ := Lib.hid hz
        have HY := Lib.hid hy
        clear hz hy
        by_cases h0 : z = y
        · subst h0
          have hne : (z != z) = false := by simp
          go_wp2_with fail
          go_quiet (fail)
          go_wp2_with fail
          go_roundw
          case rel => exact ⟨k + 1, by omega, by go_num, by rw [trim_step HZ.out, trim_step HY.out, HK.out], below_drewN HB.out _⟩
          case measure => simp [intOf]; omega
        · have hne : (z != y) = true := by simpa using h0
          have hv : ¬ xs = ys := by
            rintro rfl; have h1 := HZ.out; rw [HY.out] at h1; cases h1; exact h0 rfl
          have HV := Lib.hid hv
          clear hv h0
          go_wp2_with fail
          go_quiet (fail)
          go_wp2_with fail
          go_ret
          rw [decide_eq_false HV.out]; exact ⟨rfl, below_drewN HB.out _⟩
      · obtain rfl : k = xs.length := by omega
        have HE := Lib.hid (same_end HL.out HK.out)
        go_wp2_with fail
        go_ret
        rw [decide_eq_true HE.out]; exact ⟨rfl, HB.out⟩
  · have hne : ((xs.length : Int) != (ys.length : Int)) = true := by simp; omega
    have hv : ¬ xs = ys := fun h => hl (congrArg _ h)
    have HV := Lib.hid hv
    clear hv hl
    go_enter Try.func26, Try.ntmps26
    go_wp2_with fail
    go_ret
    rw [decide_eq_false HV.out]; exact ⟨rfl, Below.refl _ _⟩
end Go.Proofs.Ytgmlccjjhmhgbaa
/- Contracts of compare: the program's and the reference's; Cmp of both. -/
namespace Go.Proofs.Ytgmlccjjhmhgbaa
open Go.ChangeShapes Go.WideShapes Go.RowKit
set_option linter.unusedVariables false
set_option maxRecDepth 100000

def cmpI (x y : Int) : Int := Lib.compareInt x y
theorem cmpI_lt {x y : Int} (h : x < y) : cmpI x y = -1 := by simp [cmpI, Lib.compareInt, h]
theorem cmpI_gt {x y : Int} (h : y < x) : cmpI x y = 1 := by
  unfold cmpI Lib.compareInt; rw [if_neg (by omega), if_pos h]
theorem cmpI_eq (x : Int) : cmpI x x = 0 := by simp [cmpI, Lib.compareInt]
theorem nrm_len {xs ys : List Int} (hx : nrm xs = true) (hy : nrm ys = true) (h : xs.length < ys.length) : nval xs < nval ys := by
  have a := nval_lt (nrm_lok hx)
  have b := nrm_limbs hy
  have c := nval_nonneg (nrm_lok hy)
  have d := nval_nonneg (nrm_lok hx)
  rcases Int.lt_or_le (nval xs) (nval ys) with h1 | h1
  · exact h1
  · exfalso
    have e : (nval ys).toNat < 1000000000 ^ xs.length := by
      have : ((nval ys).toNat : Int) < ((1000000000 ^ xs.length : Nat) : Int) := by rw [Int.natCast_pow]; have : ((1000000000 : Nat) : Int) = 1000000000 := rfl; rw [this]; omega
      omega
    have := limbs_len_le.mpr e
    rw [← b] at this
    omega
theorem nval_lt_at {xs ys : List Int} {k : Nat} {x y : Int} (hx : lok xs = true) (hy : lok ys = true) (h1 : xs[k]? = some x) (h2 : ys[k]? = some y) (he : xs.drop (k + 1) = ys.drop (k + 1)) (h : x < y) : nval xs < nval ys := by
  have hk : k < xs.length := by
    rcases Nat.lt_or_ge k xs.length with h | h
    · exact h
    · rw [List.getElem?_eq_none h] at h1; cases h1
  have hk2 : k < ys.length := by
    rcases Nat.lt_or_ge k ys.length with h | h
    · exact h
    · rw [List.getElem?_eq_none h] at h2; cases h2
  have e1 : nval xs = nval (xs.take k) + 1000000000 ^ k * (x + 1000000000 * nval (xs.drop (k + 1))) := by
    rw [← nval_drop_step h1]
    have := nval_append (xs.take k) (xs.drop k)
    rw [List.take_append_drop, List.length_take, Nat.min_eq_left (by omega)] at this; exact this
  have e2 : nval ys = nval (ys.take k) + 1000000000 ^ k * (y + 1000000000 * nval (ys.drop (k + 1))) := by
    rw [← nval_drop_step h2]
    have := nval_append (ys.take k) (ys.drop k)
    rw [List.take_append_drop, List.length_take, Nat.min_eq_left (by omega)] at this; exact this
  have l1 := nval_lt (lok_take hx k)
  have l2 := nval_nonneg (lok_take hy k)
  rw [List.length_take, Nat.min_eq_left (by omega)] at l1
  rw [e1, e2, he]
  obtain ⟨P, hP⟩ : ∃ P : Int, P = 1000000000 ^ k := ⟨_, rfl⟩
  obtain ⟨R, hR⟩ : ∃ R : Int, R = 1000000000 * nval (ys.drop (k + 1)) := ⟨_, rfl⟩
  have hpos := pow_pos' k
  rw [← hP] at l1 hpos ⊢
  rw [← hR]
  have m : P * (x + R) + P ≤ P * (y + R) := by
    have := Int.mul_le_mul_of_nonneg_left (show x + R + 1 ≤ y + R by omega) (Int.le_of_lt hpos)
    rw [Int.mul_add, Int.mul_one] at this; exact this
  omega
theorem drop_step {l : List Int} {k : Nat} {z : Int} (h : l[k]? = some z) : l.drop k = z :: l.drop (k + 1) := by
  have hk : k < l.length := by
    rcases Nat.lt_or_ge k l.length with h1 | h1
    · exact h1
    · rw [List.getElem?_eq_none h1] at h; cases h
  rw [List.drop_eq_getElem_cons hk]
  rw [List.getElem?_eq_getElem hk] at h
  cases h; rfl

set_option maxHeartbeats 1600000 in
theorem nat_compare (xs ys : List Int) (A B : Option Addr) (c d : Nat) (lo hi lo' hi' : Nat) (w : World) (hS : Holds w lo hi A xs) (hT : Holds w lo' hi' B ys) (hh : hi ≤ w.heap.size) (hh' : hi' ≤ w.heap.size)
    (hx : nrm xs = true) (hy : nrm ys = true) (hm : xs.length ≤ 1000000) (hm2 : ys.length ≤ 1000000) :
    Calls Try.prog 65 #[.slice A xs.length c, .slice B ys.length d] w fun e w' => e = .returned (.int .i64 (cmpI (nval xs) (nval ys))) ∧ Below w.heap.size w w' := by
  have HS := Lib.hid hS
  have HT := Lib.hid hT
  have HX := Lib.hid hx
  have HY := Lib.hid hy
  clear hS hT hx hy
  by_cases hl : xs.length = ys.length
  · go_enter Try.func65, Try.ntmps65
    rw [← hl]
    have HL := Lib.hid hl
    clear hl hm2
    go_wp2_with fail
    go_loopw [19] (fun i wr => ∃ k : Nat, k ≤ xs.length ∧ i = .int .i64 k ∧ xs.drop (xs.length - k) = ys.drop (xs.length - k) ∧ Below w.heap.size w wr) (fun i _ => xs.length - (intOf i).toNat)
    case atStart => exact ⟨0, Nat.zero_le _, rfl, by rw [Nat.sub_zero, List.drop_length, HL.out, List.drop_length], Below.refl _ _⟩
    case round =>
      obtain ⟨k, hk, rfl, hz, hbel⟩ := hrel
      have HK := Lib.hid hz
      have HB := Lib.hid hbel
      clear hz hbel
      rcases Nat.lt_or_ge k xs.length with hlt | hge
      · obtain ⟨j, hj⟩ : ∃ j, j = xs.length - 1 - k := ⟨_, rfl⟩
        obtain ⟨z, hz⟩ : ∃ z, xs[j]? = some z := ⟨_, List.getElem?_eq_getElem (by omega)⟩
        obtain ⟨y, hy⟩ : ∃ y, ys[j]? = some y := ⟨_, List.getElem?_eq_getElem (by have := HL.out; omega)⟩
        obtain ⟨b, off, rfl, _, _, hcell⟩ := (HS.out.below HB.out hh) j z hz
        obtain ⟨b2, off2, rfl, _, _, hcell2⟩ := (HT.out.below HB.out hh') j y hy
        have e1 : (xs.length : Int) - 1 - k = (j : Int) := by omega
        have hjl : j < xs.length := by omega
        have hd : xs.drop (j + 1) = ys.drop (j + 1) := by have := HK.out; have e : xs.length - k = j + 1 := by omega
                                                          rwa [e] at this
        have HZ := Lib.hid hz
        have HYY := Lib.hid hy
        have HJ := Lib.hid hj
        have HD := Lib.hid hd
        clear hz hy hj hd
        by_cases h0 : z = y
        · subst h0
          have hne : (z != z) = false := by simp
          go_wp2_with fail
          go_quiet (fail)
          go_wp2_with fail
          go_roundw
          case rel =>
            refine ⟨k + 1, by omega, by go_num, ?_, below_drewN HB.out _⟩
            have e2 : xs.length - (k + 1) = j := by have := HJ.out; omega
            rw [e2, drop_step HZ.out, drop_step HYY.out, HD.out]
          case measure => simp [intOf]; omega
        · have hne : (z != y) = true := by simpa using h0
          have hv : Lib.compareInt z y = cmpI (nval xs) (nval ys) := by
            rcases Int.lt_or_le z y with h1 | h1
            · rw [cmpI_lt (nval_lt_at (nrm_lok HX.out) (nrm_lok HY.out) HZ.out HYY.out HD.out h1)]; exact cmpI_lt h1
            · have h2 : y < z := by omega
              rw [cmpI_gt (nval_lt_at (nrm_lok HY.out) (nrm_lok HX.out) HYY.out HZ.out HD.out.symm h2)]; exact cmpI_gt h2
          have HV := Lib.hid hv
          clear hv h0
          go_wp2_with fail
          go_quiet (fail)
          go_wp2_with fail
          go_quiet ((go_at_call 82; exact (Try.cmp_Compare_int _ _ _).mono fun _ _ k => ⟨k.1, _, k.2⟩))
          go_wp2_with fail
          go_ret
          exact ⟨ret_int HV.out, below_drewN (below_drewN HB.out _) _⟩
      · obtain rfl : k = xs.length := by omega
        have he : xs = ys := by have := HK.out; simpa using this
        have HE := Lib.hid he
        clear he
        go_wp2_with fail
        go_ret
        refine ⟨ret_int ?_, HB.out⟩
        rw [← HE.out, cmpI_eq]
  · have hne : ((xs.length : Int) != (ys.length : Int)) = true := by simp; omega
    have hv : Lib.compareInt (xs.length : Int) (ys.length : Int) = cmpI (nval xs) (nval ys) := by
      rcases Nat.lt_or_ge xs.length ys.length with h1 | h1
      · rw [cmpI_lt (nrm_len HX.out HY.out h1)]; exact cmpI_lt (by omega)
      · rw [cmpI_gt (nrm_len HY.out HX.out (by omega))]; exact cmpI_gt (by omega)
    have HV := Lib.hid hv
    clear hv hl
    go_enter Try.func65, Try.ntmps65
    go_wp2_with (go_at_call 82; refine (Try.cmp_Compare_int _ _ _).mono ?_; rintro e w' ⟨rfl, rfl⟩)
    go_ret
    exact ⟨ret_int HV.out, Below.refl _ _⟩
end Go.Proofs.Ytgmlccjjhmhgbaa
