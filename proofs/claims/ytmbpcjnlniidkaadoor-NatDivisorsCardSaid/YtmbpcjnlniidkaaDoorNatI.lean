/- The contract of nat.Mul. -/
import Derived.Test.YtmbpcjnlniidkaaDoorNatH
import Derived.StillTailTactics
namespace Go.Proofs.YtmbpcjnlniidkaaDoor
open Go.ChangeShapes Go.WideShapes Go.RowKit
set_option linter.unusedVariables false

/-- Mul. -/
def mulV (xs ys : List Int) : Nat := if both xs ys then fitN (nval xs * nval ys).toNat else 0
def mulE (xs ys : List Int) : Int := if both xs ys then fitE (nval xs * nval ys).toNat else 3
/-- The window of n limbs at place k. -/
def win (P : List Int) (k n : Nat) : List Int := (P.drop k).take n
theorem win_length {P : List Int} {k n : Nat} (h : k + n ≤ P.length) : (win P k n).length = n := by simp [win]; omega
theorem win_at {P : List Int} {k n : Nat} (h : k + n ≤ P.length) (j : Nat) (hj : j < n) : P[k + j]? = (win P k n)[j]? := by
  unfold win; rw [List.getElem?_take, if_pos hj, List.getElem?_drop]
theorem win_split {P : List Int} {k n : Nat} (h : k + n ≤ P.length) : nval P = nval (P.take k) + 1000000000 ^ k * (nval (win P k n) + 1000000000 ^ n * nval (P.drop (k + n))) := by
  have e : P = P.take k ++ (win P k n ++ P.drop (k + n)) := by
    have e1 : win P k n ++ P.drop (k + n) = P.drop k := by
      unfold win; rw [← List.drop_drop, List.take_append_drop]
    rw [e1, List.take_append_drop]
  have l1 : (P.take k).length = k := by rw [List.length_take]; omega
  have l2 := win_length h
  have := congrArg nval e
  rw [nval_append, nval_append, l1, l2] at this
  exact this
theorem laid_split {P T : List Int} {k n : Nat} (h : k + n ≤ P.length) (hT : T.length = n) : nval (laid P k T) = nval (P.take k) + 1000000000 ^ k * (nval T + 1000000000 ^ n * nval (P.drop (k + n))) := by
  have l1 : (P.take k).length = k := by rw [List.length_take]; omega
  unfold laid
  rw [nval_append, nval_append, l1, hT]
theorem laid_lok {P T : List Int} {k : Nat} (h : lok P = true) (hT : lok T = true) : lok (laid P k T) = true := by
  unfold laid; rw [lok_append, lok_append]; exact ⟨lok_take h _, hT, lok_drop h _⟩
theorem mul_step {P xs : List Int} {k m : Nat} {b : Int} (hP : lok P = true) (hk : k + (xs.length + 1) ≤ P.length) (hx : lok xs = true) (hb : 0 ≤ b) (hb2 : b < 1000000000)
    (hlt : nval P < 1000000000 ^ (xs.length + k)) :
    lok (addT (win P k (xs.length + 1)) xs b 0) = true ∧ nval (laid P k (addT (win P k (xs.length + 1)) xs b 0)) = nval P + 1000000000 ^ k * (b * nval xs) := by
  have hs := win_split hk
  have hw := nval_nonneg (lok_take (lok_drop hP k) (xs.length + 1))
  have h1 := nval_nonneg (lok_take hP k)
  have h2 := nval_nonneg (lok_drop hP (k + (xs.length + 1)))
  have p1 := pow_pos' k
  have p2 := pow_pos' (xs.length + 1)
  have hl := win_length hk
  have hv : nval (addT (win P k (xs.length + 1)) xs b 0) = nval (win P k (xs.length + 1)) + b * nval xs := by rw [addT_val _ _ _ _ (by omega)]; omega
  have hx1 := nval_lt hx
  have hx0 := nval_nonneg hx
  have hwlt : nval (win P k (xs.length + 1)) < 1000000000 ^ xs.length := by
    rcases Int.lt_or_le (nval (win P k (xs.length + 1))) (1000000000 ^ xs.length) with h | h
    · exact h
    · exfalso
      have e : (1000000000 : Int) ^ (xs.length + k) = 1000000000 ^ k * 1000000000 ^ xs.length := by rw [Int.pow_add, Int.mul_comm]
      have a1 : 1000000000 ^ k * 1000000000 ^ xs.length ≤ (1000000000 : Int) ^ k * (nval (win P k (xs.length + 1)) + 1000000000 ^ (xs.length + 1) * nval (P.drop (k + (xs.length + 1)))) :=
        Int.mul_le_mul_of_nonneg_left (by have := Int.mul_nonneg (Int.le_of_lt p2) h2; omega) (Int.le_of_lt p1)
      omega
  refine ⟨lok_of_dropLast ?_ (addT_lok _ _ _ _) ?_ ?_, ?_⟩
  · intro h; have := addT_length (win P k (xs.length + 1)) xs b 0; rw [h, hl] at this; simp at this
  · rw [hv]; have := Int.mul_nonneg hb hx0; change 0 ≤ nval (win P k (xs.length + 1)) at hw; omega
  · rw [hv, addT_length, hl, Int.pow_succ]
    have : b * nval xs ≤ 999999999 * nval xs := Int.mul_le_mul_of_nonneg_right (by omega) hx0
    omega
  · rw [laid_split hk (by rw [addT_length, hl]), hv, hs, Int.mul_add, Int.mul_add, Int.mul_add]; omega
theorem mul_round {P xs ys : List Int} {k : Nat} {b : Int} (hP : lok P = true) (hl : P.length = xs.length + ys.length) (hx : lok xs = true) (hy : lok ys = true) (hb : ys[k]? = some b) (hv : nval P = nval xs * nval (ys.take k)) :
    (lok (addT (win P k (xs.length + 1)) xs b 0) = true ∧ nval (laid P k (addT (win P k (xs.length + 1)) xs b 0)) = nval xs * nval (ys.take (k + 1))) ∧ k + (xs.length + 1) ≤ P.length := by
  have hk : k < ys.length := by
    rcases Nat.lt_or_ge k ys.length with h | h
    · exact h
    · rw [List.getElem?_eq_none h] at hb; cases hb
  have hkk : k + (xs.length + 1) ≤ P.length := by omega
  have hbb := lok_at hy hb
  have hlt : nval P < 1000000000 ^ (xs.length + k) := by
    have a := nval_lt hx
    have a0 := nval_nonneg hx
    have c := nval_lt (lok_take hy k)
    have c0 := nval_nonneg (lok_take hy k)
    rw [List.length_take, Nat.min_eq_left (by omega)] at c
    rw [hv, Int.pow_add]
    have p := pow_pos' xs.length
    have m1 : nval xs * nval (ys.take k) ≤ 1000000000 ^ xs.length * nval (ys.take k) := Int.mul_le_mul_of_nonneg_right (Int.le_of_lt a) c0
    have m2 : (1000000000 : Int) ^ xs.length * nval (ys.take k) < 1000000000 ^ xs.length * 1000000000 ^ k := Int.mul_lt_mul_of_pos_left c p
    omega
  have h := mul_step hP hkk hx hbb.1 hbb.2 hlt (m := 0)
  refine ⟨⟨h.1, ?_⟩, hkk⟩
  rw [h.2, hv, trim_step hb, nval_snoc, List.length_take, Nat.min_eq_left (by omega), Int.mul_add]
  congr 1
  rw [Int.mul_comm b, Int.mul_left_comm]

theorem wrap_id {n : Int} (h1 : -9223372036854775808 ≤ n) (h2 : n ≤ 9223372036854775807) : IntKind.i64.wrap n = n := by rw [IntKind.wrap_i64]; omega

set_option maxHeartbeats 1600000 in
theorem nat_Mul (xs ys : List Int) (va vb : Value) (w : World) (ha : In w va xs) (hb : In w vb ys) :
    Calls Tryd.prog 31 #[va, vb] w (Res w (mulV xs ys) (mulE xs ys)) := by
  obtain ⟨A, c, rfl, hc, hm, hA⟩ := ha
  obtain ⟨B, d, rfl, hd, hn, hB⟩ := hb
  have HA := Lib.hid hA
  have HB := Lib.hid hB
  have hm1 : xs.length ≤ 9223372036854775807 := Nat.le_trans hc hm
  have hm2 : ys.length ≤ 9223372036854775807 := Nat.le_trans hd hn
  clear hA hB hm hn
  rcases both_cases xs ys with ⟨hx, hbo⟩ | ⟨hx, hy, hbo⟩ | ⟨hx, hy, hbo⟩
  · have HBO := Lib.hid hbo
    clear hbo
    go_enter Tryd.func31, Tryd.ntmps31
    go_wp2_with fail
    refine (nat_Valid xs A c _ _ w HA.out hm1).mono ?_
    rintro e w' ⟨rfl, rfl⟩
    go_wp2_with fail
    go_ret2
    exact Res.none (by rw [mulV, HBO.out]; rfl) (by rw [mulE, HBO.out]; rfl) rfl (Below.refl _ _)
  · have HBO := Lib.hid hbo
    clear hbo
    go_enter Tryd.func31, Tryd.ntmps31
    go_wp2_with fail
    refine (nat_Valid xs A c _ _ w HA.out hm1).mono ?_
    rintro e w' ⟨rfl, rfl⟩
    go_wp2_with fail
    refine (nat_Valid ys B d _ _ _ HB.out hm2).mono ?_
    rintro e w' ⟨rfl, rfl⟩
    go_wp2_with fail
    go_ret2
    exact Res.none (by rw [mulV, HBO.out]; rfl) (by rw [mulE, HBO.out]; rfl) rfl (Below.refl _ _)
  · have HBO := Lib.hid hbo
    have l1 := valid_len hx
    have l2 := valid_len hy
    have HZ := Lib.hid (valid_lok hx)
    have HZ2 := Lib.hid (valid_lok hy)
    clear hbo
    obtain ⟨i0, hi0, hz0, hz1, hz2⟩ := info_parts info_int
    go_enter Tryd.func31, Tryd.ntmps31
    go_wp2_with fail
    refine (nat_Valid xs A c _ _ w HA.out hm1).mono ?_
    rintro e w' ⟨rfl, rfl⟩
    go_wp2_with fail
    refine (nat_Valid ys B d _ _ _ HB.out hm2).mono ?_
    rintro e w' ⟨rfl, rfl⟩
    go_wp2_with (first
      | (at_make; refine wpList_make_full _ rfl _ _ 23 rfl w.heap.size 3 i0 (.int .i64 0) 1 Tryd.underlying23 hi0 hz0 hz1 .i64 .i64 _ _ (xs.length + ys.length) rfl rfl (by omega) (by omega) (by rw [hz2]; omega) (by unfold maxLen; omega) (Nat.le_refl _) ?_; intro w1 hown hgrow)
      | fail)
    have hrow0 : Row w1 w.heap.size (List.replicate (xs.length + ys.length) 0) := row_of_heap (heap_of_made hown)
    have hbel0 : Below w.heap.size w w1 := (Below.refl _ _).grown hgrow (Nat.le_refl _) (fun k hk => by cases hk)
    have HR0 := Lib.hid hrow0
    have HB0 := Lib.hid hbel0
    clear hrow0 hbel0 hown hgrow
    go_loopw [24] (fun i wr => ∃ (k : Nat) (P : List Int), k ≤ ys.length ∧ i = .int .i64 k ∧ P.length = xs.length + ys.length ∧ lok P = true ∧ nval P = nval xs * nval (ys.take k) ∧ Row wr w.heap.size P ∧ Below w.heap.size w wr) (fun i _ => ys.length - (intOf i).toNat)
    case atStart => exact ⟨0, _, Nat.zero_le _, rfl, by simp, lok_zeros _, by rw [nval_zeros]; simp [nval], HR0.out, HB0.out⟩
    case round =>
      obtain ⟨k, P, hk, rfl, hP, hPk, hPv, hrow, hbel⟩ := hrel
      have HPK := Lib.hid hPk
      have HPV := Lib.hid hPv
      have HP := Lib.hid hP
      have HR := Lib.hid hrow
      have HBL := Lib.hid hbel
      clear hPk hPv hP hrow hbel
      rcases Nat.lt_or_ge k ys.length with hlt | hge
      · obtain ⟨b, hb⟩ : ∃ b, ys[k]? = some b := ⟨_, List.getElem?_eq_getElem hlt⟩
        obtain ⟨bb, off, rfl, _, _, hcell⟩ := (Holds.below HB.out HBL.out (Nat.le_refl _)) k b hb
        have hmr := mul_round HPK.out HP.out HZ.out HZ2.out hb HPV.out
        have hbb := lok_at HZ2.out hb
        have hcall : ∀ (W : World) (cap : Nat), W.heap = wr.heap → Calls Tryd.prog 48 #[.slice (some ⟨w.heap.size, k, none⟩) (xs.length + 1) cap, .slice A xs.length c, .int .i64 b] W
            fun e w' => e = .returned (.tuple #[]) ∧ Row w' w.heap.size (laid P k (addT (win P k (xs.length + 1)) xs b 0)) ∧ Only w.heap.size W w' := by
          intro W cap hW
          have hwl := win_length hmr.2
          have hwk : lok (win P k (xs.length + 1)) = true := lok_take (lok_drop HPK.out k) _
          have h := nat_addTimes P (win P k (xs.length + 1)) xs b w.heap.size k cap c 0 w.heap.size A W (HR.out.keep (by rw [hW])) (by rw [hwl]; exact hmr.2) (fun j hj => win_at hmr.2 j (by omega))
            ((Holds.below HA.out HBL.out (Nat.le_refl _)).keep fun i _ _ => by rw [hW]) (Or.inr (Nat.le_refl _)) (by omega) (by omega) (by rw [List.dropLast_eq_take]; exact lok_take hwk _) (fun z hz => by have := lok_at hwk hz; omega) HZ.out (by omega) (by omega)
          rw [hwl] at h; exact h
        have HCALL := Lib.hid hcall
        have HS := Lib.hid hmr
        have HBB := Lib.hid hb
        have hk2 : (k : Int) + xs.length + 1 ≤ (xs.length : Int) + ys.length := by omega
        have hk3 : (k : Int) ≤ (k : Int) + xs.length + 1 := by omega
        have hw1 : IntKind.i64.wrap ((k : Int) + xs.length) = (k : Int) + xs.length := wrap_id (by omega) (by omega)
        have hw2 : IntKind.i64.wrap ((k : Int) + xs.length + 1) = (k : Int) + xs.length + 1 := wrap_id (by omega) (by omega)
        have hk4 : (k : Int) < (ys.length : Int) := by omega
        have hk5 : ¬ xs.length + ys.length = k := by omega
        have hk6 : ((k : Int) + xs.length + 1).toNat - k = xs.length + 1 := by omega
        clear hb hcall hmr hbb
        go_wp2_with fail
        go_still_tail 13, (by kernel_rfl)
        change wpList _ _ _ _ _ wr.drew
        go_wp2_with fail
        refine (HCALL.out wr.drew _ rfl).mono ?_
        rintro e w' ⟨rfl, hr2, ho2⟩
        have HR2 := Lib.hid hr2
        have HO2 := Lib.hid ho2
        clear hr2 ho2 hcell
        go_wp2_with fail
        go_roundw
        case rel =>
          have hm := HS.out
          have hwl := win_length hm.2
          exact ⟨k + 1, _, by omega, by go_num, by rw [laid_length (by rw [addT_length, hwl]; exact hm.2), HP.out], laid_lok HPK.out hm.1.1, hm.1.2, HR2.out, (HBL.out.drew).trans (HO2.out.toBelow (Nat.le_refl _))⟩
        case measure => simp [intOf]; omega
      · obtain rfl : k = ys.length := by omega
        have hv := HPV.out
        rw [List.take_length] at hv
        have hsz := HR.out.lt
        have hlim := nat_limited P (some ⟨w.heap.size, 0, none⟩) (xs.length + ys.length) w.heap.size wr.heap.size wr (HR.out.holds (fun k z hz => by rw [Nat.zero_add]; exact hz) (Nat.le_refl _) hsz) (by have := HP.out; omega) (by unfold maxLen; omega) HPK.out
        rw [hv, HP.out] at hlim
        have HLIM := Lib.hid hlim
        clear hlim hv
        go_wp2_with fail
        refine HLIM.out.mono ?_
        rintro e w3 ⟨v, rfl, hsl, rfl⟩
        go_wp2_with fail
        go_ret2
        refine ⟨v, ?_, ?_, HBL.out⟩
        · rw [mulE, HBO.out]; rfl
        · rw [mulV, HBO.out]; exact hsl
#print axioms nat_Mul
end Go.Proofs.YtmbpcjnlniidkaaDoor
