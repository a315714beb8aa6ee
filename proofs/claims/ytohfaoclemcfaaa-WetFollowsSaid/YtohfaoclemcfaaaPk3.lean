/- Several texts in one: NatI, NatJ, NatK, NatL, NatM, NatN, NatO, NatP. -/
import Derived.Test.YtohfaoclemcfaaaPk2
import Derived.StillTailTactics
import Derived.Lib.ItoaNum
import Derived.Lib.ItoaLen
import Derived.Lib.AppendStr
import Derived.Lib.AppendIntMem
/- The contract of nat.Mul. -/
namespace Go.Proofs.Ytohfaoclemcfaaa
open Go.ChangeShapes Go.WideShapes Go.RowKit
set_option linter.unusedVariables false
set_option maxRecDepth 100000

/-- Mul. -/
def mulV (xs ys : List Int) : Nat := if both xs ys then fitN (nval xs * nval ys).toNat else 0
def mulE (xs ys : List Int) : Int := if both xs ys then fitE (nval xs * nval ys).toNat else 3
/-- The window of n limbs at place k. -/
def win (P : List Int) (k n : Nat) : List Int := (P.drop k).take n
theorem win_length {P : List Int} {k n : Nat} (h : k + n ≤ P.length) : (win P k n).length = n := by simp [win]; omega
theorem win_at {P : List Int} {k n : Nat} (h : k + n ≤ P.length) (j : Nat) (hj : j < n) : P[k + j]? = (win P k n)[j]? := by
  unfold win; rw [List.getElem?_take, if_pos hj, List.getElem?_drop]
theorem win_split {P : List Int} {k n : Nat} (h : k + n ≤ P.length) : nval P = nval (P.take k) + 1000000000 ^ k * (nval (win P k n) + 1000000000 ^ n * nval (P.drop (k + n))) := by
  have e : P = P.take k ++ (win P k n ++ P.drop (k + n)) := by
    have e1 : win P k n ++ P.drop (k + n) = P.drop k := by
      unfold win; rw [← List.drop_drop, List.take_append_drop]
    rw [e1, List.take_append_drop]
  have l1 : (P.take k).length = k := by rw [List.length_take]; omega
  have l2 := win_length h
  have := congrArg nval e
  rw [nval_append, nval_append, l1, l2] at this
  exact this
theorem laid_split {P T : List Int} {k n : Nat} (h : k + n ≤ P.length) (hT : T.length = n) : nval (laid P k T) = nval (P.take k) + 1000000000 ^ k * (nval T + 1000000000 ^ n * nval (P.drop (k + n))) := by
  have l1 : (P.take k).length = k := by rw [List.length_take]; omega
  unfold laid
  rw [nval_append, nval_append, l1, hT]
theorem laid_lok {P T : List Int} {k : Nat} (h : lok P = true) (hT : lok T = true) : lok (laid P k T) = true := by
  unfold laid; rw [lok_append, lok_append]; exact ⟨lok_take h _, hT, lok_drop h _⟩
theorem mul_step {P xs : List Int} {k m : Nat} {b : Int} (hP : lok P = true) (hk : k + (xs.length + 1) ≤ P.length) (hx : lok xs = true) (hb : 0 ≤ b) (hb2 : b < 1000000000)
    (hlt : nval P < 1000000000 ^ (xs.length + k)) :
    lok (addT (win P k (xs.length + 1)) xs b 0) = true ∧ nval (laid P k (addT (win P k (xs.length + 1)) xs b 0)) = nval P + 1000000000 ^ k * (b * nval xs) := by
  have hs := win_split hk
  have hw := nval_nonneg (lok_take (lok_drop hP k) (xs.length + 1))
  have h1 := nval_nonneg (lok_take hP k)
  have h2 := nval_nonneg (lok_drop hP (k + (xs.length + 1)))
  have p1 := pow_pos' k
  have p2 := pow_pos' (xs.length + 1)
  have hl := win_length hk
  have hv : nval (addT (win P k (xs.length + 1)) xs b 0) = nval (win P k (xs.length + 1)) + b * nval xs := by rw [addT_val _ _ _ _ (by omega)]; omega
  have hx1 := nval_lt hx
  have hx0 := nval_nonneg hx
  have hwlt : nval (win P k (xs.length + 1)) < 1000000000 ^ xs.length := by
    rcases Int.lt_or_le (nval (win P k (xs.length + 1))) (1000000000 ^ xs.length) with h | h
    · exact h
    · exfalso
      have e : (1000000000 : Int) ^ (xs.length + k) = 1000000000 ^ k * 1000000000 ^ xs.length := by rw [Int.pow_add, Int.mul_comm]
      have a1 : 1000000000 ^ k * 1000000000 ^ xs.length ≤ (1000000000 : Int) ^ k * (nval (win P k (xs.length + 1)) + 1000000000 ^ (xs.length + 1) * nval (P.drop (k + (xs.length + 1)))) :=
        Int.mul_le_mul_of_nonneg_left (by have := Int.mul_nonneg (Int.le_of_lt p2) h2; omega) (Int.le_of_lt p1)
      omega
  refine ⟨lok_of_dropLast ?_ (addT_lok _ _ _ _) ?_ ?_, ?_⟩
  · intro h; have := addT_length (win P k (xs.length + 1)) xs b 0; rw [h, hl] at this; simp at this
  · rw [hv]; have := Int.mul_nonneg hb hx0; change 0 ≤ nval (win P k (xs.length + 1)) at hw; omega
  · rw [hv, addT_length, hl, Int.pow_succ]
    have : b * nval xs ≤ 999999999 * nval xs := Int.mul_le_mul_of_nonneg_right (by omega) hx0
    omega
  · rw [laid_split hk (by rw [addT_length, hl]), hv, hs, Int.mul_add, Int.mul_add, Int.mul_add]; omega
theorem mul_round {P xs ys : List Int} {k : Nat} {b : Int} (hP : lok P = true) (hl : P.length = xs.length + ys.length) (hx : lok xs = true) (hy : lok ys = true) (hb : ys[k]? = some b) (hv : nval P = nval xs * nval (ys.take k)) :
    (lok (addT (win P k (xs.length + 1)) xs b 0) = true ∧ nval (laid P k (addT (win P k (xs.length + 1)) xs b 0)) = nval xs * nval (ys.take (k + 1))) ∧ k + (xs.length + 1) ≤ P.length := by
  have hk : k < ys.length := by
    rcases Nat.lt_or_ge k ys.length with h | h
    · exact h
    · rw [List.getElem?_eq_none h] at hb; cases hb
  have hkk : k + (xs.length + 1) ≤ P.length := by omega
  have hbb := lok_at hy hb
  have hlt : nval P < 1000000000 ^ (xs.length + k) := by
    have a := nval_lt hx
    have a0 := nval_nonneg hx
    have c := nval_lt (lok_take hy k)
    have c0 := nval_nonneg (lok_take hy k)
    rw [List.length_take, Nat.min_eq_left (by omega)] at c
    rw [hv, Int.pow_add]
    have p := pow_pos' xs.length
    have m1 : nval xs * nval (ys.take k) ≤ 1000000000 ^ xs.length * nval (ys.take k) := Int.mul_le_mul_of_nonneg_right (Int.le_of_lt a) c0
    have m2 : (1000000000 : Int) ^ xs.length * nval (ys.take k) < 1000000000 ^ xs.length * 1000000000 ^ k := Int.mul_lt_mul_of_pos_left c p
    omega
  have h := mul_step hP hkk hx hbb.1 hbb.2 hlt (m := 0)
  refine ⟨⟨h.1, ?_⟩, hkk⟩
  rw [h.2, hv, trim_step hb, nval_snoc, List.length_take, Nat.min_eq_left (by omega), Int.mul_add]
  congr 1
  rw [Int.mul_comm b, Int.mul_left_comm]

theorem wrap_id {n : Int} (h1 : -9223372036854775808 ≤ n) (h2 : n ≤ 9223372036854775807) : IntKind.i64.wrap n = n := by rw [IntKind.wrap_i64]; omega

set_option maxHeartbeats 1600000 in
theorem nat_Mul (xs ys : List Int) (va vb : Value) (w : World) (ha : In w va xs) (hb : In w vb ys) :
    Calls Try.prog 83 #[va, vb] w (Res w (mulV xs ys) (mulE xs ys)) := by
  obtain ⟨A, c, rfl, hc, hm, hA⟩ := ha
  obtain ⟨B, d, rfl, hd, hn, hB⟩ := hb
  have HA := Lib.hid hA
  have HB := Lib.hid hB
  have hm1 : xs.length ≤ 9223372036854775807 := Nat.le_trans hc hm
  have hm2 : ys.length ≤ 9223372036854775807 := Nat.le_trans hd hn
  clear hA hB hm hn
  rcases both_cases xs ys with ⟨hx, hbo⟩ | ⟨hx, hy, hbo⟩ | ⟨hx, hy, hbo⟩
  · have HBO := Lib.hid hbo
    clear hbo
    go_enter Try.func83, Try.ntmps83
    go_wp2_with fail
    refine (nat_Valid xs A c _ _ w HA.out hm1).mono ?_
    rintro e w' ⟨rfl, rfl⟩
    go_wp2_with fail
    go_ret2
    exact Res.none (by rw [mulV, HBO.out]; rfl) (by rw [mulE, HBO.out]; rfl) rfl (Below.refl _ _)
  · have HBO := Lib.hid hbo
    clear hbo
    go_enter Try.func83, Try.ntmps83
    go_wp2_with fail
    refine (nat_Valid xs A c _ _ w HA.out hm1).mono ?_
    rintro e w' ⟨rfl, rfl⟩
    go_wp2_with fail
    refine (nat_Valid ys B d _ _ _ HB.out hm2).mono ?_
    rintro e w' ⟨rfl, rfl⟩
    go_wp2_with fail
    go_ret2
    exact Res.none (by rw [mulV, HBO.out]; rfl) (by rw [mulE, HBO.out]; rfl) rfl (Below.refl _ _)
  · have HBO := Lib.hid hbo
    have l1 := valid_len hx
    have l2 := valid_len hy
    have HZ := Lib.hid (valid_lok hx)
    have HZ2 := Lib.hid (valid_lok hy)
    clear hbo
    obtain ⟨i0, hi0, hz0, hz1, hz2⟩ := info_parts info_int
    go_enter Try.func83, Try.ntmps83
    go_wp2_with fail
    refine (nat_Valid xs A c _ _ w HA.out hm1).mono ?_
    rintro e w' ⟨rfl, rfl⟩
    go_wp2_with fail
    refine (nat_Valid ys B d _ _ _ HB.out hm2).mono ?_
    rintro e w' ⟨rfl, rfl⟩
    go_wp2_with (first
      | (at_make; refine wpList_make_full _ rfl _ _ 25 rfl w.heap.size 3 i0 (.int .i64 0) 1 Try.underlying25 hi0 hz0 hz1 .i64 .i64 _ _ (xs.length + ys.length) rfl rfl (by omega) (by omega) (by rw [hz2]; omega) (by unfold maxLen; omega) (Nat.le_refl _) ?_; intro w1 hown hgrow)
      | fail)
    have hrow0 : Row w1 w.heap.size (List.replicate (xs.length + ys.length) 0) := row_of_heap (heap_of_made hown)
    have hbel0 : Below w.heap.size w w1 := (Below.refl _ _).grown hgrow (Nat.le_refl _) (fun k hk => by cases hk)
    have HR0 := Lib.hid hrow0
    have HB0 := Lib.hid hbel0
    clear hrow0 hbel0 hown hgrow
    go_loopw [24] (fun i wr => ∃ (k : Nat) (P : List Int), k ≤ ys.length ∧ i = .int .i64 k ∧ P.length = xs.length + ys.length ∧ lok P = true ∧ nval P = nval xs * nval (ys.take k) ∧ Row wr w.heap.size P ∧ Below w.heap.size w wr) (fun i _ => ys.length - (intOf i).toNat)
    case atStart => exact ⟨0, _, Nat.zero_le _, rfl, by simp, lok_zeros _, by rw [nval_zeros]; simp [nval], HR0.out, HB0.out⟩
    case round =>
      obtain ⟨k, P, hk, rfl, hP, hPk, hPv, hrow, hbel⟩ := hrel
      have HPK := Lib.hid hPk
      have HPV := Lib.hid hPv
      have HP := Lib.hid hP
      have HR := Lib.hid hrow
      have HBL := Lib.hid hbel
      clear hPk hPv hP hrow hbel
      rcases Nat.lt_or_ge k ys.length with hlt | hge
      · obtain ⟨b, hb⟩ : ∃ b, ys[k]? = some b := ⟨_, List.getElem?_eq_getElem hlt⟩
        obtain ⟨bb, off, rfl, _, _, hcell⟩ := (Holds.below HB.out HBL.out (Nat.le_refl _)) k b hb
        have hmr := mul_round HPK.out HP.out HZ.out HZ2.out hb HPV.out
        have hbb := lok_at HZ2.out hb
        have hcall : ∀ (W : World) (cap : Nat), W.heap = wr.heap → Calls Try.prog 95 #[.slice (some ⟨w.heap.size, k, none⟩) (xs.length + 1) cap, .slice A xs.length c, .int .i64 b] W
            fun e w' => e = .returned (.tuple #[]) ∧ Row w' w.heap.size (laid P k (addT (win P k (xs.length + 1)) xs b 0)) ∧ Only w.heap.size W w' := by
          intro W cap hW
          have hwl := win_length hmr.2
          have hwk : lok (win P k (xs.length + 1)) = true := lok_take (lok_drop HPK.out k) _
          have h := nat_addTimes P (win P k (xs.length + 1)) xs b w.heap.size k cap c 0 w.heap.size A W (HR.out.keep (by rw [hW])) (by rw [hwl]; exact hmr.2) (fun j hj => win_at hmr.2 j (by omega))
            ((Holds.below HA.out HBL.out (Nat.le_refl _)).keep fun i _ _ => by rw [hW]) (Or.inr (Nat.le_refl _)) (by omega) (by omega) (by rw [List.dropLast_eq_take]; exact lok_take hwk _) (fun z hz => by have := lok_at hwk hz; omega) HZ.out (by omega) (by omega)
          rw [hwl] at h; exact h
        have HCALL := Lib.hid hcall
        have HS := Lib.hid hmr
        have HBB := Lib.hid hb
        have hk2 : (k : Int) + xs.length + 1 ≤ (xs.length : Int) + ys.length := by omega
        have hk3 : (k : Int) ≤ (k : Int) + xs.length + 1 := by omega
        have hw1 : IntKind.i64.wrap ((k : Int) + xs.length) = (k : Int) + xs.length := wrap_id (by omega) (by omega)
        have hw2 : IntKind.i64.wrap ((k : Int) + xs.length + 1) = (k : Int) + xs.length + 1 := wrap_id (by omega) (by omega)
        have hk4 : (k : Int) < (ys.length : Int) := by omega
        have hk5 : ¬ xs.length + ys.length = k := by omega
        have hk6 : ((k : Int) + xs.length + 1).toNat - k = xs.length + 1 := by omega
        clear hb hcall hmr hbb
        go_wp2_with fail
        go_still_tail 13, (by kernel_rfl)
        change wpList _ _ _ _ _ wr.drew
        go_wp2_with fail
        refine (HCALL.out wr.drew _ rfl).mono ?_
        rintro e w' ⟨rfl, hr2, ho2⟩
        have HR2 := Lib.hid hr2
        have HO2 := Lib.hid ho2
        clear hr2 ho2 hcell
        go_wp2_with fail
        go_roundw
        case rel =>
          have hm := HS.out
          have hwl := win_length hm.2
          exact ⟨k + 1, _, by omega, by go_num, by rw [laid_length (by rw [addT_length, hwl]; exact hm.2), HP.out], laid_lok HPK.out hm.1.1, hm.1.2, HR2.out, (HBL.out.drew).trans (HO2.out.toBelow (Nat.le_refl _))⟩
        case measure => simp [intOf]; omega
      · obtain rfl : k = ys.length := by omega
        have hv := HPV.out
        rw [List.take_length] at hv
        have hsz := HR.out.lt
        have hlim := nat_limited P (some ⟨w.heap.size, 0, none⟩) (xs.length + ys.length) w.heap.size wr.heap.size wr (HR.out.holds (fun k z hz => by rw [Nat.zero_add]; exact hz) (Nat.le_refl _) hsz) (by have := HP.out; omega) (by unfold maxLen; omega) HPK.out
        rw [hv, HP.out] at hlim
        have HLIM := Lib.hid hlim
        clear hlim hv
        go_wp2_with fail
        refine HLIM.out.mono ?_
        rintro e w3 ⟨v, rfl, hsl, rfl⟩
        go_wp2_with fail
        go_ret2
        refine ⟨v, ?_, ?_, HBL.out⟩
        · rw [mulE, HBO.out]; rfl
        · rw [mulV, HBO.out]; exact hsl
end Go.Proofs.Ytohfaoclemcfaaa
/- The contract of nat.Text. -/
namespace Go.Proofs.Ytohfaoclemcfaaa
open Go.ChangeShapes Go.WideShapes Go.RowKit
set_option linter.unusedVariables false
set_option maxRecDepth 100000

/-- The table of powers of ten reads as it was laid. -/
def Tab (w : World) : Prop := Lib.TabBelow Try.prog w.heap.size w "internal/strconv.uint64pow10" .u64 Lib.pow10Tab
theorem Tab.on {w w' : World} (h : Tab w) (hb : Below w.heap.size w w') : Tab w' := fun w2 h2 => h w2 (hb.trans (h2.mono hb.size))
theorem Tab.here {w : World} (h : Tab w) : Lib.TabIs Try.prog w "internal/strconv.uint64pow10" .u64 Lib.pow10Tab := h w (Below.refl _ _)

def padD : Nat → Nat → List UInt8
  | 0, _ => []
  | k + 1, r => padD k (r / 10) ++ [UInt8.ofNat (48 + r % 10)]
theorem padD_length (k : Nat) : ∀ r, (padD k r).length = k := by
  induction k with
  | zero => intro r; rfl
  | succ k ih => intro r; rw [padD, List.length_append, ih]; rfl
theorem dec_pad (k : Nat) : ∀ (q r : Nat), 0 < q → r < 10 ^ k → Lib.decDigits (q * 10 ^ k + r) = Lib.decDigits q ++ padD k r := by
  induction k with
  | zero => intro q r hq hr; obtain rfl : r = 0 := by simpa using hr
            simp [padD]
  | succ k ih =>
    intro q r hq hr
    have p : 0 < 10 ^ k := Nat.pow_pos (by decide)
    rw [Nat.pow_succ] at hr ⊢
    have e1 : (q * (10 ^ k * 10) + r) / 10 = q * 10 ^ k + r / 10 := by
      rw [← Nat.mul_assoc, Nat.mul_comm (q * 10 ^ k) 10, Nat.mul_add_div (by decide)]
    have e2 : (q * (10 ^ k * 10) + r) % 10 = r % 10 := by
      rw [← Nat.mul_assoc, Nat.mul_comm (q * 10 ^ k) 10, Nat.mul_add_mod]
    have big : ¬ q * (10 ^ k * 10) + r < 10 := by
      have : 1 * (1 * 10) ≤ q * (10 ^ k * 10) := Nat.mul_le_mul hq (Nat.mul_le_mul_right 10 p)
      omega
    rw [Lib.decDigits, dif_neg big, e1, e2, ih q (r / 10) hq (by omega), padD, List.append_assoc]
theorem dec_limb {x : Nat} (h : x < 1000000000) : Lib.decDigits (1000000000 + x) = 49 :: padD 9 x := by
  have := dec_pad 9 1 x (by decide) (by simpa using h)
  have e : Lib.decDigits 1 = [49] := by rw [Lib.decDigits_one (by decide)]; rfl
  rw [e] at this
  simpa using this
theorem dec_next {x q : Nat} (h : x < 1000000000) (hq : 0 < q) : Lib.decDigits (x + 1000000000 * q) = Lib.decDigits q ++ padD 9 x := by
  have := dec_pad 9 q x hq (by simpa using h)
  rw [← this]; congr 1; omega
def decS (n : Nat) : ByteArray := ⟨(Lib.decDigits n).toArray⟩
def textV (xs : List Int) : ByteArray := if validB xs then decS (nval xs).toNat else ⟨#[]⟩
def oneE (xs : List Int) : Int := if validB xs then 0 else 3

theorem own_keep {w w' : World} {base e size n : Nat} {v : Value} {xs : List Value} (h : w.ownsRow base e size v n xs) (hb : Below w.heap.size w w') : w'.ownsRow base e size v n xs := by
  obtain ⟨h1, h2 | ⟨g, cap, cur, rfl, h3, h4, h5⟩⟩ := h
  · exact ⟨h1, Or.inl h2⟩
  · exact ⟨h1, Or.inr ⟨g, cap, cur, rfl, h3, (hb.block g (lt_of_block h4)).trans h4, h5⟩⟩
theorem grow_below' (w : World) (k : Nat) (os : Array Obj) : Below w.heap.size w (Sort.grow (w.drewN k) os) := by
  refine ⟨rfl, rfl, rfl, ?_, fun i hi => ?_⟩
  · show w.heap.size ≤ (w.heap ++ os).size; rw [Array.size_append]; omega
  · show (w.heap ++ os)[i]? = _; rw [Array.getElem?_append_left hi]
theorem info_byte : (Try.prog.info? 5).map (fun i => (i.zero, i.size, i.bytes)) = some (some (.int .u8 0), 1, 1) := by kernel_rfl
theorem itoa_nn {x : Int} (h : 0 ≤ x) : Lib.itoa x = Lib.decDigits x.toNat := by unfold Lib.itoa; rw [if_neg (by omega)]
theorem nval_pos_last {xs : List Int} (hn : nrm xs = true) {k : Nat} (hk : k < xs.length) : 0 < nval (xs.drop k) := by
  have hl := nrm_lok hn
  have hne : xs.drop k ≠ [] := by intro h; have := congrArg List.length h; simp at this; omega
  have e := List.dropLast_concat_getLast hne
  have h1 := nval_nonneg (lok_drop hl k)
  rcases Int.lt_or_eq_of_le h1 with h | h
  · exact h
  · exfalso
    have hz : (xs.drop k).getLast? = some ((xs.drop k).getLast hne) := List.getLast?_eq_some_getLast hne
    have hz2 : xs.getLast? = some ((xs.drop k).getLast hne) := by rw [← hz, List.getLast?_drop, if_neg (by omega)]
    have hlok := lok_drop hl k
    rw [← e, lok_append] at hlok
    have a := nval_nonneg hlok.1
    rw [← e, nval_snoc] at h
    have z0 : 0 ≤ (xs.drop k).getLast hne := (lok_cons.mp hlok.2).1.1
    have p := pow_pos' (xs.drop k).dropLast.length
    have hm := Int.mul_nonneg (Int.le_of_lt p) z0
    have hm0 : 1000000000 ^ (xs.drop k).dropLast.length * (xs.drop k).getLast hne = 0 := by omega
    rcases Int.mul_eq_zero.mp hm0 with h2 | h2
    · omega
    · rw [h2] at hz2; simp [nrm, hz2] at hn

theorem nval_last {xs : List Int} {z : Int} (hz : xs[xs.length - 1]? = some z) : nval (xs.drop (xs.length - 1)) = z := by
  have h := nval_drop_step hz
  have hp : 0 < xs.length := by
    rcases Nat.eq_zero_or_pos xs.length with h1 | h1
    · have : xs = [] := List.eq_nil_of_length_eq_zero h1
      subst this; simp at hz
    · exact h1
  rw [h, List.drop_eq_nil_of_le (by omega)]; simp [nval]
theorem text_start {xs : List Int} {z : Int} (hn : nrm xs = true) (hz : xs[xs.length - 1]? = some z) : Lib.itoa z = Lib.decDigits (nval (xs.drop (xs.length - 1 - 0))).toNat := by
  rw [Nat.sub_zero, nval_last hz, itoa_nn (lok_at (nrm_lok hn) hz).1]
theorem text_step {xs : List Int} {x : Int} {k : Nat} (hn : nrm xs = true) (hk : k < xs.length - 1) (hx : xs[xs.length - 1 - 1 - k]? = some x) :
    Lib.decDigits (nval (xs.drop (xs.length - 1 - (k + 1)))).toNat = Lib.decDigits (nval (xs.drop (xs.length - 1 - k))).toNat ++ padD 9 x.toNat := by
  have e0 : xs.length - 1 - (k + 1) = xs.length - 1 - 1 - k := by omega
  have h := nval_drop_step hx
  have e1 : xs.length - 1 - 1 - k + 1 = xs.length - 1 - k := by omega
  rw [e1] at h
  have p := nval_pos_last hn (k := xs.length - 1 - k) (by omega)
  have b := lok_at (nrm_lok hn) hx
  rw [e0, h, ← dec_next (x := x.toNat) (by omega) (q := (nval (xs.drop (xs.length - 1 - k))).toNat) (by omega)]
  congr 1; omega
theorem tail_bytes {x : Int} (h0 : 0 ≤ x) (h1 : x < 1000000000) : Lib.itoa (1000000000 + x) = 49 :: padD 9 x.toNat := by
  rw [itoa_nn (by omega), ← dec_limb (by omega)]; congr 1; omega

theorem tail_cells {S : ByteArray} {x : Nat} (hS : S = ⟨(49 :: padD 9 x).toArray⟩) : Lib.strCells (S.extract 1 10) = Lib.byteCells (padD 9 x) ∧ (S.extract 1 10).size = 9 := by
  subst hS
  have h : (ByteArray.extract ⟨(49 :: padD 9 x).toArray⟩ 1 10).data.toList = padD 9 x := by
    rw [ByteArray.data_extract]
    simp [List.take_of_length_le (Nat.le_of_eq (padD_length 9 x))]
  refine ⟨by unfold Lib.strCells Lib.byteCells; rw [h], ?_⟩
  show (ByteArray.extract ⟨(49 :: padD 9 x).toArray⟩ 1 10).data.size = 9
  rw [← Array.length_toList, h, padD_length]

end Go.Proofs.Ytohfaoclemcfaaa
/- Contracts of nat.isDecimal and nat.Parse. -/
namespace Go.Proofs.Ytohfaoclemcfaaa
open Go.ChangeShapes Go.WideShapes Go.RowKit
set_option linter.unusedVariables false
set_option maxRecDepth 100000

def isD (b : UInt8) : Bool := decide (48 ≤ b.toNat) && decide (b.toNat ≤ 57)
/-- Digits, not none, without leading zeros. -/
def decOk (L : List UInt8) : Bool := L.all isD && (decide (L = [48]) || (!L.isEmpty && ((L.headD 0) != 48)))
theorem str_get? (s : ByteArray) {k : Nat} (h : k < s.size) : s.data.toList[k]? = some s[k] := by
  rw [Array.getElem?_toList]
  exact Array.getElem?_eq_getElem h
theorem str_len (s : ByteArray) : s.data.toList.length = s.size := by rw [Array.length_toList]; rfl
theorem all_snoc {L : List UInt8} {k : Nat} {b : UInt8} (h : (L.take k).all isD = true) (hb : L[k]? = some b) (h1 : isD b = true) : (L.take (k + 1)).all isD = true := by
  rw [List.take_add_one, hb, List.all_append, h]; simp [h1]
theorem decOk_bad {L : List UInt8} {k : Nat} {b : UInt8} (hb : L[k]? = some b) (h1 : isD b = false) : decOk L = false := by
  have : L.all isD = false := by
    rw [List.all_eq_false]; exact ⟨b, List.mem_of_getElem? hb, by simp [h1]⟩
  simp [decOk, this]
theorem isD_no {b : UInt8} (h : b.toNat < 48 ∨ 57 < b.toNat) : isD b = false := by
  unfold isD
  rcases h with h | h
  · rw [decide_eq_false (by omega)]; rfl
  · rw [decide_eq_false (p := b.toNat ≤ 57) (by omega), Bool.and_false]
theorem isD_yes {b : UInt8} (h1 : 48 ≤ b.toNat) (h2 : b.toNat ≤ 57) : isD b = true := by simp [isD, h1, h2]
theorem isD_iff {b : UInt8} (h : isD b = true) : 48 ≤ b.toNat ∧ b.toNat ≤ 57 := by simpa [isD] using h

theorem fin_dec {s : ByteArray} {w : World} {b : Bool} (h : b = decOk s.data.toList) : Ending.returned (.bool b) = Ending.returned (.bool (decOk s.data.toList)) ∧ w = w := by subst h; exact ⟨rfl, rfl⟩

end Go.Proofs.Ytohfaoclemcfaaa
/- The contract of nat.Parse. -/
namespace Go.Proofs.Ytohfaoclemcfaaa
open Go.ChangeShapes Go.WideShapes Go.RowKit
set_option linter.unusedVariables false
set_option maxRecDepth 100000

/-- What digits stand for. -/
def dval (L : List UInt8) : Nat := L.foldl (fun v b => v * 10 + (b.toNat - 48)) 0
theorem dval_snoc (L : List UInt8) (b : UInt8) : dval (L ++ [b]) = dval L * 10 + (b.toNat - 48) := by simp [dval]
def parN (L : List UInt8) : Nat := if decOk L then (if L.length ≤ 432 then dval L else 0) else 0
def parE (L : List UInt8) : Int := if decOk L then (if L.length ≤ 432 then 0 else 2) else 3

theorem nval_drop_getD (P : List Int) (t : Nat) : nval (P.drop t) = P.getD t 0 + 1000000000 * nval (P.drop (t + 1)) := by
  rcases Nat.lt_or_ge t P.length with h | h
  · have hz : P[t]? = some P[t] := List.getElem?_eq_getElem h
    rw [nval_drop_step hz, List.getD_eq_getElem?_getD, hz]; rfl
  · rw [List.drop_eq_nil_of_le h, List.drop_eq_nil_of_le (by omega), List.getD_eq_getElem?_getD, List.getElem?_eq_none h]; rfl
theorem lok_set {P : List Int} (h : lok P = true) (j : Nat) {v : Int} (h0 : 0 ≤ v) (h1 : v < 1000000000) : lok (P.set j v) = true := by
  simp only [lok, List.all_eq_true] at h ⊢
  intro x hx
  rcases List.mem_or_eq_of_mem_set hx with h2 | h2
  · exact h x h2
  · subst h2; simp [h0, h1]
structure PInv (L : List UInt8) (P : List Int) (k : Nat) : Prop where
  len : P.length = (L.length + 8) / 9
  ok : lok P = true
  low : ∀ j, j < (L.length - k) / 9 → P.getD j 0 = 0
  lt : P.getD ((L.length - k) / 9) 0 < 10 ^ (9 - (L.length - k) % 9)
  val : (dval (L.take k) : Int) = nval (P.drop ((L.length - k) / 9 + 1)) * 10 ^ (9 - (L.length - k) % 9) + P.getD ((L.length - k) / 9) 0
theorem getD_replicate (n j : Nat) : (List.replicate n (0 : Int)).getD j 0 = 0 := by
  rw [List.getD_eq_getElem?_getD, List.getElem?_replicate]; split <;> rfl
theorem pinv_start (L : List UInt8) : PInv L (List.replicate ((L.length + 8) / 9) 0) 0 := by
  refine ⟨by simp, lok_zeros _, fun j _ => getD_replicate _ _, ?_, ?_⟩
  · rw [getD_replicate]; exact Int.pow_pos (by decide)
  · rw [getD_replicate, List.drop_replicate, nval_zeros]; simp [dval]
theorem pinv_end {L : List UInt8} {P : List Int} (h : PInv L P L.length) : nval P = dval L := by
  have h1 := h.val
  rw [Nat.sub_self, List.take_length] at h1
  have h2 := nval_drop_getD P 0
  rw [List.drop_zero] at h2
  have e : ((10 : Int) ^ (9 - 0 % 9)) = 1000000000 := by decide
  rw [e] at h1
  simp only [Nat.zero_div, Nat.zero_add] at h1 h2
  omega
theorem getD_set_same {P : List Int} {j : Nat} (h : j < P.length) (v : Int) : (P.set j v).getD j 0 = v := by
  rw [List.getD_eq_getElem?_getD, List.getElem?_set_self h]; rfl
theorem getD_set_other {P : List Int} {i j : Nat} (h : i ≠ j) (v : Int) : (P.set i v).getD j 0 = P.getD j 0 := by
  rw [List.getD_eq_getElem?_getD, List.getElem?_set_ne h, List.getD_eq_getElem?_getD]
theorem drop_set_above {P : List Int} {i j : Nat} (h : i < j) (v : Int) : (P.set i v).drop j = P.drop j := by
  rw [List.drop_set, if_pos h]
theorem dval_take_succ {L : List UInt8} {k : Nat} {b : UInt8} (hb : L[k]? = some b) (hd : isD b = true) : (dval (L.take (k + 1)) : Int) = dval (L.take k) * 10 + ((b.toNat : Int) - 48) := by
  rw [List.take_add_one, hb]
  have := dval_snoc (L.take k) b
  have hb := isD_iff hd
  simp only [Option.toList_some]
  rw [this]; omega
theorem pinv_step {L : List UInt8} {P : List Int} {k : Nat} {b : UInt8} (h : PInv L P k) (hb : L[k]? = some b) (hd : isD b = true) :
    (L.length - 1 - k) / 9 < P.length ∧ 0 ≤ P.getD ((L.length - 1 - k) / 9) 0 ∧ P.getD ((L.length - 1 - k) / 9) 0 < 100000000 ∧
    PInv L (P.set ((L.length - 1 - k) / 9) (P.getD ((L.length - 1 - k) / 9) 0 * 10 + ((b.toNat : Int) - 48))) (k + 1) := by
  have hk : k < L.length := by
    rcases Nat.lt_or_ge k L.length with h1 | h1
    · exact h1
    · rw [List.getElem?_eq_none h1] at hb; cases hb
  have hbd := isD_iff hd
  have hv := dval_take_succ hb hd
  have hlen := h.len
  have e1 : L.length - (k + 1) = L.length - 1 - k := by omega
  have hj : (L.length - 1 - k) / 9 < P.length := by omega
  obtain ⟨j, hjj⟩ : ∃ j, j = (L.length - 1 - k) / 9 := ⟨_, rfl⟩
  have x0 := (lok_getD h.ok j).1
  by_cases hr : (L.length - k) % 9 = 0
  · have ej : (L.length - k) / 9 = j + 1 := by omega
    have er : (L.length - 1 - k) % 9 = 8 := by omega
    have hx : P.getD j 0 = 0 := h.low j (by omega)
    have h1 := h.val
    rw [hr, ej] at h1
    have e9 : ((10 : Int) ^ (9 - 0)) = 1000000000 := by decide
    have e8 : ((10 : Int) ^ (9 - 8)) = 10 := by decide
    rw [e9] at h1
    have h2 := nval_drop_getD P (j + 1)
    rw [← hjj, hx]
    rw [← hjj] at hj
    refine ⟨hj, by omega, by omega, by rw [List.length_set]; exact hlen, lok_set h.ok _ (by omega) (by omega), ?_, ?_, ?_⟩
    · intro i hi
      rw [e1, ← hjj] at hi
      rw [getD_set_other (by omega)]; exact h.low i (by omega)
    · rw [e1, ← hjj, er, e8, getD_set_same hj]; omega
    · rw [e1, ← hjj, er, e8, getD_set_same hj, hv, drop_set_above (by omega)]; omega
  · have ej : (L.length - k) / 9 = j := by omega
    have er : 9 - (L.length - 1 - k) % 9 = 9 - (L.length - k) % 9 + 1 := by omega
    have h1 := h.val
    have h3 := h.lt
    rw [ej] at h1 h3
    obtain ⟨q, hq⟩ : ∃ q, q = 9 - (L.length - k) % 9 := ⟨_, rfl⟩
    have hq8 : q ≤ 8 := by omega
    rw [← hq] at h1 h3 er
    have hp8 : (10 : Int) ^ q ≤ 100000000 := by
      have : ∀ q : Nat, q ≤ 8 → (10 : Int) ^ q ≤ 100000000 := by decide
      exact this q hq8
    rw [← hjj]
    rw [← hjj] at hj
    refine ⟨hj, x0, by omega, by rw [List.length_set]; exact hlen, lok_set h.ok _ (by omega) (by omega), ?_, ?_, ?_⟩
    · intro i hi
      rw [e1, ← hjj] at hi
      rw [getD_set_other (by omega)]; exact h.low i (by omega)
    · rw [e1, ← hjj, er, getD_set_same hj, Int.pow_succ]; omega
    · rw [e1, ← hjj, er, getD_set_same hj, hv, drop_set_above (by omega), Int.pow_succ, h1, ← Int.mul_assoc]; omega

end Go.Proofs.Ytohfaoclemcfaaa
/- Contracts of nat.divide of short numbers, of nat.DivMod, of nat.gcd of short numbers, of nat.Gcd. -/
namespace Go.Proofs.Ytohfaoclemcfaaa
open Go.ChangeShapes Go.WideShapes Go.RowKit
set_option linter.unusedVariables false
set_option maxRecDepth 100000

/-- What divide leaves: the limbs of the quotient and of the remainder. -/
def DivRes (w : World) (xs ys : List Int) (e : Ending) (w' : World) : Prop :=
  ∃ vq vr, e = .returned (.tuple #[vq, vr]) ∧ Sl w' w.heap.size w'.heap.size vq (limbs ((nval xs).toNat / (nval ys).toNat)) ∧ Sl w' w.heap.size w'.heap.size vr (limbs ((nval xs).toNat % (nval ys).toNat)) ∧ Below w.heap.size w w'
theorem nval_pos {ys : List Int} (hn : nrm ys = true) (hne : 0 < ys.length) : 0 < nval ys := by
  have := nval_pos_last hn (k := 0) hne
  rwa [List.drop_zero] at this
theorem padL_self (xs : List Int) : padL xs xs.length = xs := by simp [padL]

set_option maxHeartbeats 1600000 in
theorem divide_less (xs ys : List Int) (va vb : Value) (w : World) (ha : In w va xs) (hb : In w vb ys) (hx : nrm xs = true) (hy : nrm ys = true) (hlx : xs.length ≤ 100000) (hl : xs.length < ys.length) :
    Calls Try.prog 82 #[va, vb] w (DivRes w xs ys) := by
  obtain ⟨A, c, rfl, hc, hm, hA⟩ := ha
  obtain ⟨B, d, rfl, hd, hn, hB⟩ := hb
  have HA := Lib.hid hA
  have hlt := nrm_len hx hy hl
  have h0 := nval_nonneg (nrm_lok hx)
  have hxl := nrm_limbs hx
  have e1 : (nval xs).toNat / (nval ys).toNat = 0 := Nat.div_eq_of_lt (by omega)
  have e2 : (nval xs).toNat % (nval ys).toNat = (nval xs).toNat := Nat.mod_eq_of_lt (by omega)
  have E1 := Lib.hid e1
  have E2 := Lib.hid e2
  have HX := Lib.hid hxl
  have hl' : (xs.length : Int) < (ys.length : Int) := by omega
  clear hA hB hm hn hlt h0 hxl e1 e2 hx hy
  go_enter Try.func82, Try.ntmps82
  go_wp2_with fail
  refine (nat_copied xs A c xs.length _ _ w HA.out (Nat.le_refl _) (Nat.le_refl _) (by omega)).mono ?_
  rintro e w1 ⟨rfl, hrow, hbel⟩
  rw [padL_self] at hrow
  have HR := Lib.hid hrow
  have HB := Lib.hid hbel
  clear hrow hbel
  go_wp2_with fail
  go_ret2
  refine ⟨.slice none 0 0, .slice (some ⟨w.heap.size, 0, none⟩) xs.length xs.length, rfl, by rw [E1.out, limbs_zero]; exact Sl.nil _ _ _, ?_, HB.out⟩
  rw [E2.out, ← HX.out]
  exact ⟨_, _, rfl, Nat.le_refl _, by unfold maxLen; omega, HR.out.holds (fun k z hz => by rw [Nat.zero_add]; exact hz) (Nat.le_refl _) HR.out.lt⟩

set_option maxHeartbeats 1600000 in
theorem divide_two (xs ys : List Int) (va vb : Value) (w : World) (ha : In w va xs) (hb : In w vb ys) (hx : nrm xs = true) (hy : nrm ys = true) (hl2 : xs.length ≤ 2) (hp : 0 < ys.length) (hl : ys.length ≤ xs.length) :
    Calls Try.prog 82 #[va, vb] w (DivRes w xs ys) := by
  obtain ⟨A, c, rfl, hc, hm, hA⟩ := ha
  obtain ⟨B, d, rfl, hd, hn, hB⟩ := hb
  have WA := fun W => nat_word xs A c 0 w.heap.size W
  have hyl : ys.length ≤ 2 := by omega
  have hwa : Calls Try.prog 90 #[.slice A xs.length c] w fun e w' => e = .returned (.int .i64 (nval xs)) ∧ w = w' := nat_word xs A c _ _ w hA (nrm_lok hx) hl2
  have hwb : Calls Try.prog 90 #[.slice B ys.length d] w fun e w' => e = .returned (.int .i64 (nval ys)) ∧ w = w' := nat_word ys B d _ _ w hB (nrm_lok hy) hyl
  have hA' := hA
  have hB' := hB
  have sx := nval_small (nrm_lok hx) hl2
  have sy := nval_small (nrm_lok hy) hyl
  have py := nval_pos hy hp
  obtain ⟨M, hM⟩ : ∃ M, M = nval xs := ⟨_, rfl⟩
  obtain ⟨N, hN⟩ : ∃ N, N = nval ys := ⟨_, rfl⟩
  rw [← hM] at sx hwa
  rw [← hN] at sy py hwb
  have HM := Lib.hid hM
  have HN := Lib.hid hN
  have HWA := Lib.hid hwa
  have HWB := Lib.hid hwb
  have HAA := Lib.hid hA
  have HBB := Lib.hid hB
  have HXX := Lib.hid (nrm_lok hx)
  have HYY := Lib.hid (nrm_lok hy)
  have hl' : decide ((xs.length : Int) < (ys.length : Int)) = false := decide_eq_false (by omega)
  have hl2' : (xs.length : Int) ≤ 2 := by omega
  obtain ⟨sx0, sx1⟩ := sx
  obtain ⟨sy0, sy1⟩ := sy
  have n0 : ¬ N = 0 := by omega
  have n1 : (N == 0) = false := beq_false_of_ne n0
  have q0 : M.tdiv N = M / N := Int.tdiv_eq_ediv_of_nonneg sx0
  have r0 : M.tmod N = M % N := Int.tmod_eq_emod_of_nonneg sx0
  have q1 : 0 ≤ M / N := Int.ediv_nonneg sx0 sy0
  have q2 : M / N ≤ M := Int.ediv_le_self _ sx0
  have r1 : 0 ≤ M % N := Int.emod_nonneg _ n0
  have r2 : M % N < N := Int.emod_lt_of_pos _ py
  have eq1 : (M / N).toNat = M.toNat / N.toNat := by
    have e1 : M = (M.toNat : Int) := by omega
    have e2 : N = (N.toNat : Int) := by omega
    rw [e1, e2]; exact Int.toNat_natCast _
  have eq2 : (M % N).toNat = M.toNat % N.toNat := by
    have e1 : M = (M.toNat : Int) := by omega
    have e2 : N = (N.toNat : Int) := by omega
    rw [e1, e2]; exact Int.toNat_natCast _
  have EQ1 := Lib.hid eq1
  have EQ2 := Lib.hid eq2
  clear WA hA hB hA' hB' hM hN hwa hwb hx hy hm hn eq1 eq2
  go_enter Try.func82, Try.ntmps82
  go_wp2_with fail
  refine HWA.out.mono ?_
  rintro e w' ⟨rfl, rfl⟩
  go_wp2_with fail
  refine HWB.out.mono ?_
  rintro e w' ⟨rfl, rfl⟩
  go_wp2_with fail
  refine (nat_ofWord (M / N) w (by omega) (by omega)).mono ?_
  rintro e w1 ⟨vq, rfl, hsq, hb1⟩
  have hwa : Calls Try.prog 90 #[.slice A xs.length c] w1 fun e w' => e = .returned (.int .i64 M) ∧ w1 = w' := by
    rw [HM.out]; exact nat_word xs A c _ _ w1 (HAA.out.below hb1 (Nat.le_refl _)) HXX.out hl2
  have hwb : Calls Try.prog 90 #[.slice B ys.length d] w1 fun e w' => e = .returned (.int .i64 N) ∧ w1 = w' := by
    rw [HN.out]; exact nat_word ys B d _ _ w1 (HBB.out.below hb1 (Nat.le_refl _)) HYY.out hyl
  have HWA1 := Lib.hid hwa
  have HWB1 := Lib.hid hwb
  have HSQ := Lib.hid hsq
  have HB1 := Lib.hid hb1
  clear hwa hwb hsq hb1
  go_wp2_with fail
  refine HWA1.out.mono ?_
  rintro e w' ⟨rfl, rfl⟩
  go_wp2_with fail
  refine HWB1.out.mono ?_
  rintro e w' ⟨rfl, rfl⟩
  go_wp2_with fail
  refine (nat_ofWord (M % N) w1 (by omega) (by omega)).mono ?_
  rintro e w2 ⟨vr, rfl, hsr, hb2⟩
  have HSR := Lib.hid hsr
  have HB2 := Lib.hid hb2
  clear hsr hb2
  go_wp2_with fail
  go_ret2
  have hs := HB1.out.size
  have hs2 := HB2.out.size
  refine ⟨vq, vr, rfl, ?_, ?_, HB1.out.trans (HB2.out.mono hs)⟩
  · rw [← HM.out, ← HN.out, ← EQ1.out]; exact (HSQ.out.below HB2.out (Nat.le_refl _)).more (Nat.le_refl _) hs2
  · rw [← HM.out, ← HN.out, ← EQ2.out]; exact HSR.out.more hs (Nat.le_refl _)
end Go.Proofs.Ytohfaoclemcfaaa
/- Contracts of nat.DivMod and nat.Gcd out of those of divide and gcd; of nat.gcd where the second number is short. -/
namespace Go.Proofs.Ytohfaoclemcfaaa
open Go.ChangeShapes Go.WideShapes Go.RowKit
set_option linter.unusedVariables false
set_option maxRecDepth 100000

def divOk (xs ys : List Int) : Bool := both xs ys && !ys.isEmpty
def quoN (xs ys : List Int) : Nat := if divOk xs ys then (nval xs).toNat / (nval ys).toNat else 0
def remN (xs ys : List Int) : Nat := if divOk xs ys then (nval xs).toNat % (nval ys).toNat else 0
def divE (xs ys : List Int) : Int := if both xs ys then (if ys.isEmpty then 16 else 0) else 3
def DmRes (w : World) (xs ys : List Int) (e : Ending) (w' : World) : Prop :=
  ∃ vq vr, e = .returned (.tuple #[vq, vr, .int .i64 (divE xs ys)]) ∧ Sl w' w.heap.size w'.heap.size vq (limbs (quoN xs ys)) ∧ Sl w' w.heap.size w'.heap.size vr (limbs (remN xs ys)) ∧ Below w.heap.size w w'
theorem DmRes.none {w w' : World} {xs ys : List Int} {k : Int} {e : Ending} (hq : divOk xs ys = false) (hk : divE xs ys = k) (h : e = .returned (.tuple #[.slice none 0 0, .slice none 0 0, .int .i64 k])) (hb : Below w.heap.size w w') : DmRes w xs ys e w' := by
  subst hk h
  refine ⟨_, _, rfl, ?_, ?_, hb⟩
  · rw [quoN, hq]; exact (by show Sl _ _ _ _ (limbs 0); rw [limbs_zero]; exact Sl.nil _ _ _)
  · rw [remN, hq]; exact (by show Sl _ _ _ _ (limbs 0); rw [limbs_zero]; exact Sl.nil _ _ _)

set_option maxHeartbeats 1600000 in
theorem DivMod_of (xs ys : List Int) (va vb : Value) (w : World) (ha : In w va xs) (hb : In w vb ys)
    (hdiv : validB xs = true → validB ys = true → 0 < ys.length → Calls Try.prog 82 #[va, vb] w (DivRes w xs ys)) :
    Calls Try.prog 70 #[va, vb] w (DmRes w xs ys) := by
  obtain ⟨A, c, rfl, hc, hm, hA⟩ := ha
  obtain ⟨B, d, rfl, hd, hn, hB⟩ := hb
  have HA := Lib.hid hA
  have HB := Lib.hid hB
  have HDIV := Lib.hid hdiv
  have hm1 : xs.length ≤ 9223372036854775807 := Nat.le_trans hc hm
  have hm2 : ys.length ≤ 9223372036854775807 := Nat.le_trans hd hn
  clear hA hB hm hn hdiv
  rcases both_cases xs ys with ⟨hx, hbo⟩ | ⟨hx, hy, hbo⟩ | ⟨hx, hy, hbo⟩
  · have HBO := Lib.hid hbo
    clear hbo
    go_enter Try.func70, Try.ntmps70
    go_wp2_with fail
    refine (nat_Valid xs A c _ _ w HA.out hm1).mono ?_
    rintro e w' ⟨rfl, rfl⟩
    go_wp2_with fail
    go_ret3
    exact DmRes.none (by rw [divOk, HBO.out]; rfl) (by rw [divE, HBO.out]; rfl) rfl (Below.refl _ _)
  · have HBO := Lib.hid hbo
    clear hbo
    go_enter Try.func70, Try.ntmps70
    go_wp2_with fail
    refine (nat_Valid xs A c _ _ w HA.out hm1).mono ?_
    rintro e w' ⟨rfl, rfl⟩
    go_wp2_with fail
    refine (nat_Valid ys B d _ _ _ HB.out hm2).mono ?_
    rintro e w' ⟨rfl, rfl⟩
    go_wp2_with fail
    go_ret3
    exact DmRes.none (by rw [divOk, HBO.out]; rfl) (by rw [divE, HBO.out]; rfl) rfl (Below.refl _ _)
  · have HBO := Lib.hid hbo
    clear hbo
    rcases Nat.eq_zero_or_pos ys.length with h0 | hp
    · have hn : ys = [] := List.eq_nil_of_length_eq_zero h0
      subst hn
      go_enter Try.func70, Try.ntmps70
      go_wp2_with fail
      refine (nat_Valid xs A c _ _ w HA.out hm1).mono ?_
      rintro e w' ⟨rfl, rfl⟩
      go_wp2_with fail
      refine (nat_Valid [] B d _ _ _ HB.out hm2).mono ?_
      rintro e w' ⟨rfl, rfl⟩
      go_wp2_with fail
      go_ret3
      exact DmRes.none (by rw [divOk, HBO.out]; rfl) (by rw [divE, HBO.out]; rfl) rfl (Below.refl _ _)
    · have hne : ((ys.length : Int) == 0) = false := beq_false_of_ne (by omega)
      have he : ys.isEmpty = false := by cases ys with
        | nil => simp at hp
        | cons a l => rfl
      have HE := Lib.hid he
      have hcall := HDIV.out hx hy hp
      have HCALL := Lib.hid hcall
      clear he hcall
      go_enter Try.func70, Try.ntmps70
      go_wp2_with fail
      refine (nat_Valid xs A c _ _ w HA.out hm1).mono ?_
      rintro e w' ⟨rfl, rfl⟩
      go_wp2_with fail
      refine (nat_Valid ys B d _ _ _ HB.out hm2).mono ?_
      rintro e w' ⟨rfl, rfl⟩
      go_wp2_with fail
      refine HCALL.out.mono ?_
      rintro e w' ⟨vq, vr, rfl, hq, hr, hb⟩
      have HQ := Lib.hid hq
      have HR := Lib.hid hr
      have HBL := Lib.hid hb
      clear hq hr hb
      go_wp2_with fail
      go_ret3
      have ho : divOk xs ys = true := by rw [divOk, HBO.out, HE.out]; rfl
      have hk : divE xs ys = 0 := by rw [divE, HBO.out, HE.out]; rfl
      exact ⟨vq, vr, by rw [hk]; rfl, by rw [quoN, ho]; exact HQ.out, by rw [remN, ho]; exact HR.out, HBL.out⟩

/-- What gcd leaves. -/
def GcdRes (w : World) (N : Nat) (e : Ending) (w' : World) : Prop :=
  ∃ v, e = .returned v ∧ Sl w' w.heap.size w'.heap.size v (limbs N) ∧ Below w.heap.size w w'
theorem gcd_step (a b : Nat) : Nat.gcd b (a % b) = Nat.gcd a b := by rw [Nat.gcd_comm b, ← Nat.gcd_rec, Nat.gcd_comm]
theorem gcd_words (a b : Nat) (h : 0 < b) : Nat.gcd b (a % b) = Nat.gcd a b := gcd_step a b

set_option maxHeartbeats 1600000 in
theorem gcd_short (xs ys : List Int) (va vb : Value) (w : World) (ha : In w va xs) (hb : In w vb ys) (hx : nrm xs = true) (hy : nrm ys = true) (hlx : xs.length ≤ 100000) (hl2 : ys.length ≤ 2)
    (hdiv : 0 < ys.length → Calls Try.prog 82 #[va, vb] w (DivRes w xs ys)) :
    Calls Try.prog 81 #[va, vb] w (GcdRes w (Nat.gcd (nval xs).toNat (nval ys).toNat)) := by
  obtain ⟨A, c, rfl, hc, hm, hA⟩ := ha
  obtain ⟨B, d, rfl, hd, hn, hB⟩ := hb
  have HA := Lib.hid hA
  have HB := Lib.hid hB
  have hl2' : decide ((2 : Int) < (ys.length : Int)) = false := decide_eq_false (by omega)
  have HX := Lib.hid hx
  have HY := Lib.hid hy
  rcases Nat.eq_zero_or_pos ys.length with h0 | hp
  · have hnil : ys = [] := List.eq_nil_of_length_eq_zero h0
    subst hnil
    have HXL := Lib.hid (nrm_limbs hx)
    clear hA hB hm hn hdiv hx hy
    go_enter Try.func81, Try.ntmps81
    go_wp2_with fail
    refine wp_loop_rounds 1 ?_
    rw [rounds_succ]
    go_wp2_with fail
    refine (nat_copied xs A c xs.length _ _ w HA.out (Nat.le_refl _) (Nat.le_refl _) (by omega)).mono ?_
    rintro e w1 ⟨rfl, hrow, hbel⟩
    rw [padL_self] at hrow
    have HR := Lib.hid hrow
    have HBL := Lib.hid hbel
    clear hrow hbel
    go_wp2_with fail
    go_ret
    refine ⟨_, rfl, ?_, HBL.out⟩
    have e : (nval []).toNat = 0 := rfl
    rw [e, Nat.gcd_zero_right, ← HXL.out]
    exact ⟨_, _, rfl, Nat.le_refl _, by unfold maxLen; omega, HR.out.holds (fun k z hz => by rw [Nat.zero_add]; exact hz) (Nat.le_refl _) HR.out.lt⟩
  · have hne : ((ys.length : Int) == 0) = false := beq_false_of_ne (by omega)
    have HDIV := Lib.hid (hdiv hp)
    have sy := nval_small (nrm_lok hy) hl2
    have py := nval_pos hy hp
    obtain ⟨M, hM⟩ : ∃ M, M = (nval ys).toNat := ⟨_, rfl⟩
    obtain ⟨N, hN⟩ : ∃ N, N = (nval xs).toNat := ⟨_, rfl⟩
    have eM : nval ys = (M : Int) := by omega
    have hM1 : M < 1000000000000000000 := by omega
    have hM0 : 0 < M := by omega
    have hr2 : (limbs (N % M)).length ≤ 2 := limbs_len_le.mpr (by have := Nat.mod_lt N hM0; omega)
    have HM := Lib.hid hM
    have HN := Lib.hid hN
    have EM := Lib.hid eM
    have HR2 := Lib.hid hr2
    clear hA hB hm hn hdiv hx hy sy py hM hN eM hr2
    go_enter Try.func81, Try.ntmps81
    go_wp2_with fail
    refine wp_loop_rounds 1 ?_
    rw [rounds_succ]
    go_wp2_with fail
    refine HDIV.out.mono ?_
    rintro e w1 ⟨vq, vr, rfl, -, hr, hb⟩
    rw [← HM.out, ← HN.out] at hr
    obtain ⟨A2, c2, rfl, hc2, hm2, hA2⟩ := hr
    have hwb : Calls Try.prog 90 #[.slice B ys.length d] w1 fun e w' => e = .returned (.int .i64 M) ∧ w1 = w' := by
      rw [← EM.out]; exact nat_word ys B d _ _ w1 (Holds.below HB.out hb (Nat.le_refl _)) (nrm_lok HY.out) hl2
    have hwr : Calls Try.prog 90 #[.slice A2 (limbs (N % M)).length c2] w1 fun e w' => e = .returned (.int .i64 ((N % M : Nat) : Int)) ∧ w1 = w' := by
      have := nat_word (limbs (N % M)) A2 c2 _ _ w1 hA2 (lok_limbs _) HR2.out
      rw [nval_limbs] at this; exact this
    have HWB := Lib.hid hwb
    have HWR := Lib.hid hwr
    have HBL := Lib.hid hb
    clear hwb hwr hb hA2 hm2
    go_wp2_with fail
    refine HWB.out.mono ?_
    rintro e w' ⟨rfl, rfl⟩
    go_wp2_with fail
    refine HWR.out.mono ?_
    rintro e w' ⟨rfl, rfl⟩
    go_wp2_with fail
    go_loopw [7, 8] (fun m n wr => ∃ a b : Nat, m = .int .i64 a ∧ n = .int .i64 b ∧ a < 1000000000000000000 ∧ b < 1000000000000000000 ∧ Nat.gcd a b = Nat.gcd N M ∧ Below w.heap.size w wr) (fun _ n _ => (intOf n).toNat)
    case atStart => exact ⟨M, N % M, rfl, rfl, hM1, by have := Nat.mod_lt N hM0; omega, gcd_step _ _, HBL.out⟩
    case round =>
      obtain ⟨a, b, rfl, rfl, ha1, hb1, hg, hbel⟩ := hrel
      have HG := Lib.hid hg
      have HBL2 := Lib.hid hbel
      clear hg hbel
      rcases Nat.eq_zero_or_pos b with rfl | hb0
      · have hg := HG.out
        rw [Nat.gcd_zero_right] at hg
        have HG2 := Lib.hid hg
        clear hg
        go_wp2_with fail
        refine (nat_ofWord (a : Int) wr (by omega) (by omega)).mono ?_
        rintro e w2 ⟨v, rfl, hsl, hb2⟩
        rw [Int.toNat_natCast, HG2.out] at hsl
        have HSL := Lib.hid hsl
        have HB2 := Lib.hid hb2
        clear hsl hb2
        go_wp2_with fail
        go_ret
        have hs := HBL2.out.size
        refine ⟨_, rfl, ?_, HBL2.out.trans (HB2.out.mono hs)⟩
        rw [← HM.out, ← HN.out]
        exact HSL.out.more hs (Nat.le_refl _)
      · have hb2 : ((b : Int) != 0) = true := by simp; omega
        have hb3 : ¬ (b : Int) = 0 := by omega
        have hb4 : ((b : Int) == 0) = false := beq_false_of_ne hb3
        have hr : (a : Int).tmod (b : Int) = ((a % b : Nat) : Int) := by rw [Int.tmod_eq_emod_of_nonneg (by omega)]; rfl
        have hlt := Nat.mod_lt a hb0
        go_wp2_with fail
        go_quiet (fail)
        go_wp2_with fail
        go_roundw
        case rel => exact ⟨b, a % b, rfl, rfl, hb1, by omega, by rw [gcd_step]; exact HG.out, below_drewN HBL2.out _⟩
        case measure => simp [intOf]; omega
end Go.Proofs.Ytohfaoclemcfaaa
/- Contract of nat.Gcd out of that of gcd; Same at opaque slices; 'awake'. -/
namespace Go.Proofs.Ytohfaoclemcfaaa
open Go.ChangeShapes Go.WideShapes Go.RowKit
set_option linter.unusedVariables false
set_option maxRecDepth 100000

def gcdN (xs ys : List Int) : Nat := if both xs ys then Nat.gcd (nval xs).toNat (nval ys).toNat else 0

set_option maxHeartbeats 1600000 in
theorem Gcd_of (xs ys : List Int) (va vb : Value) (w : World) (ha : In w va xs) (hb : In w vb ys)
    (hgcd : validB xs = true → validB ys = true → Calls Try.prog 81 #[va, vb] w (GcdRes w (Nat.gcd (nval xs).toNat (nval ys).toNat))) :
    Calls Try.prog 69 #[va, vb] w (Res w (gcdN xs ys) (formE xs ys)) := by
  obtain ⟨A, c, rfl, hc, hm, hA⟩ := ha
  obtain ⟨B, d, rfl, hd, hn, hB⟩ := hb
  have HA := Lib.hid hA
  have HB := Lib.hid hB
  have HG := Lib.hid hgcd
  have hm1 : xs.length ≤ 9223372036854775807 := Nat.le_trans hc hm
  have hm2 : ys.length ≤ 9223372036854775807 := Nat.le_trans hd hn
  clear hA hB hm hn hgcd
  rcases both_cases xs ys with ⟨hx, hbo⟩ | ⟨hx, hy, hbo⟩ | ⟨hx, hy, hbo⟩
  · have HBO := Lib.hid hbo
    clear hbo
    go_enter Try.func69, Try.ntmps69
    go_wp2_with fail
    refine (nat_Valid xs A c _ _ w HA.out hm1).mono ?_
    rintro e w' ⟨rfl, rfl⟩
    go_wp2_with fail
    go_ret2
    exact Res.none (by rw [gcdN, HBO.out]; rfl) (by rw [formE, HBO.out]; rfl) rfl (Below.refl _ _)
  · have HBO := Lib.hid hbo
    clear hbo
    go_enter Try.func69, Try.ntmps69
    go_wp2_with fail
    refine (nat_Valid xs A c _ _ w HA.out hm1).mono ?_
    rintro e w' ⟨rfl, rfl⟩
    go_wp2_with fail
    refine (nat_Valid ys B d _ _ _ HB.out hm2).mono ?_
    rintro e w' ⟨rfl, rfl⟩
    go_wp2_with fail
    go_ret2
    exact Res.none (by rw [gcdN, HBO.out]; rfl) (by rw [formE, HBO.out]; rfl) rfl (Below.refl _ _)
  · have HBO := Lib.hid hbo
    have HCALL := Lib.hid (HG.out hx hy)
    clear hbo
    go_enter Try.func69, Try.ntmps69
    go_wp2_with fail
    refine (nat_Valid xs A c _ _ w HA.out hm1).mono ?_
    rintro e w' ⟨rfl, rfl⟩
    go_wp2_with fail
    refine (nat_Valid ys B d _ _ _ HB.out hm2).mono ?_
    rintro e w' ⟨rfl, rfl⟩
    go_wp2_with fail
    refine HCALL.out.mono ?_
    rintro e w' ⟨v, rfl, hs, hb⟩
    have HS := Lib.hid hs
    have HBL := Lib.hid hb
    clear hs hb
    go_wp2_with fail
    go_ret2
    exact ⟨v, by rw [formE, HBO.out]; rfl, by rw [gcdN, HBO.out]; exact HS.out, HBL.out⟩

theorem same_in (xs ys : List Int) (va vb : Value) (w : World) (ha : In w va xs) (hb : In w vb ys) :
    Calls Try.prog 34 #[va, vb] w fun e w' => e = .returned (.bool (decide (xs = ys))) ∧ Below w.heap.size w w' := by
  obtain ⟨A, c, rfl, hc, hm, hA⟩ := ha
  obtain ⟨B, d, rfl, hd, hn, hB⟩ := hb
  exact ref_Same xs ys A B c d _ _ _ _ w hA hB (Nat.le_refl _) (Nat.le_refl _) (Nat.le_trans hc hm) (Nat.le_trans hd hn)
theorem in_built (w : World) (t : TypeId) (zs : List Int) (hz : zs.length ≤ 1000) : In (w.alloc (.cells (zs.map (Value.int .i64)).toArray t)) (.slice (some ⟨w.heap.size, 0, none⟩) zs.length zs.length) zs := by
  refine ⟨_, _, rfl, Nat.le_refl _, by unfold maxLen; omega, ?_⟩
  have hr : Row (w.alloc (.cells (zs.map (Value.int .i64)).toArray t)) w.heap.size zs := row_of_heap (heap_alloc_new w _)
  exact hr.holds (fun k z hk => by rw [Nat.zero_add]; exact hk) (Nat.zero_le _) hr.lt
theorem below_alloc (w : World) (o : Obj) : Below w.heap.size w (w.alloc o) := (Below.refl _ _).alloc (Nat.le_refl _) _
theorem divide_short (xs ys : List Int) (va vb : Value) (w : World) (ha : In w va xs) (hb : In w vb ys) (hx : nrm xs = true) (hy : nrm ys = true) (hl2 : xs.length ≤ 2) (hp : 0 < ys.length) :
    Calls Try.prog 82 #[va, vb] w (DivRes w xs ys) := by
  rcases Nat.lt_or_ge xs.length ys.length with h | h
  · exact divide_less xs ys va vb w ha hb hx hy (by omega) h
  · exact divide_two xs ys va vb w ha hb hx hy hl2 hp h
theorem aw1 : limbs (1000000007 : Int).toNat = [7, 1] := by
  show limbs 1000000007 = _
  rw [limbs_pos (by decide), limbs_pos (by decide), limbs]; rfl
theorem aw2 : mulV [7, 1] [3] = 3000000021 := by decide +kernel
theorem aw3 : mulE [7, 1] [3] = 0 := by decide +kernel
theorem aw2' : limbs 3000000021 = [21, 3] := by
  rw [limbs_pos (by decide), limbs_pos (by decide), limbs]; rfl
theorem aw4 : quoN [21, 3] [4] = 750000005 := by decide +kernel
theorem aw5 : remN [21, 3] [4] = 1 := by decide +kernel
theorem aw6 : divE [21, 3] [4] = 0 := by decide +kernel
theorem aw4' : limbs 750000005 = [750000005] := by rw [limbs_pos (by decide), limbs]; rfl
theorem aw5' : limbs 1 = [1] := by rw [limbs_pos (by decide), limbs]; rfl
theorem aw7 : gcdN [12] [18] = 6 := by decide +kernel
theorem aw8 : formE [12] [18] = 0 := by decide +kernel
theorem aw7' : limbs 6 = [6] := by rw [limbs_pos (by decide), limbs]; rfl
theorem aw9 : textV [21, 3] = ⟨#[51, 48, 48, 48, 48, 48, 48, 48, 50, 49]⟩ := by
  have e : (nval [21, 3]).toNat = 3000000021 := by decide +kernel
  have v : validB [21, 3] = true := by decide +kernel
  rw [textV, v, e]
  show decS 3000000021 = _
  have h := dec_next (x := 21) (q := 3) (by decide) (by decide)
  have h3 : Lib.decDigits 3 = [51] := by rw [Lib.decDigits_one (by decide)]; rfl
  rw [h3] at h
  have e2 : (21 + 1000000000 * 3) = 3000000021 := by decide
  rw [e2] at h
  unfold decS
  rw [h]; rfl
theorem aw10 : oneE [21, 3] = 0 := by decide +kernel
theorem aw11 : parN [48, 48, 55] = 0 := by decide +kernel
theorem aw12 : parE [48, 48, 55] = 3 := by decide +kernel
end Go.Proofs.Ytohfaoclemcfaaa
/- The contract of 'awake'. -/
namespace Go.Proofs.Ytohfaoclemcfaaa
open Go.ChangeShapes Go.WideShapes Go.RowKit
set_option linter.unusedVariables false
set_option maxRecDepth 100000

theorem bstep {w0 w1 w2 : World} (h : Below w0.heap.size w0 w1) (k : Below w1.heap.size w1 w2) : Below w0.heap.size w0 w2 := h.trans (k.mono h.size)
theorem balloc {w0 w1 : World} (h : Below w0.heap.size w0 w1) (o : Obj) : Below w0.heap.size w0 (w1.alloc o) := h.alloc h.size _
theorem In.alloc {w : World} {v : Value} {zs : List Int} (h : In w v zs) (o : Obj) : In (w.alloc o) v zs := h.below (below_alloc _ _) (Nat.le_refl _)
theorem In.on {w w' : World} {v : Value} {zs : List Int} (h : In w v zs) (hb : Below w.heap.size w w') : In w' v zs := h.below hb (Nat.le_refl _)
theorem in_one (w : World) (t : TypeId) (x : Int) : In (w.alloc (.cells #[.int .i64 x] t)) (.slice (some ⟨w.heap.size, 0, none⟩) 1 1) [x] := in_built w t [x] (by simp)
theorem in_two (w : World) (t : TypeId) (x y : Int) : In (w.alloc (.cells #[.int .i64 x, .int .i64 y] t)) (.slice (some ⟨w.heap.size, 0, none⟩) 2 2) [x, y] := in_built w t [x, y] (by simp)

theorem aw_Of (w : World) : Calls Try.prog 53 #[.int .i64 1000000007] w fun e w' => ∃ v, e = .returned (.tuple #[v, .int .i64 0]) ∧ In w' v [7, 1] ∧ Below w.heap.size w w' := by
  refine (nat_Of 1000000007 w (by omega) (by omega)).mono ?_
  rintro e w1 ⟨va, rfl, hsa, hb1⟩
  rw [aw1] at hsa
  exact ⟨va, rfl, hsa.toIn, hb1⟩
theorem aw_Mul (w : World) (va : Value) (h : In w va [7, 1]) : Calls Try.prog 83 #[va, .slice (some ⟨w.heap.size, 0, none⟩) 1 1] (w.alloc (.cells #[.int .i64 3] 3)) fun e w' => ∃ v, e = .returned (.tuple #[v, .int .i64 0]) ∧ In w' v [21, 3] ∧ Below w.heap.size w w' := by
  refine (nat_Mul [7, 1] [3] _ _ _ (h.alloc _) (in_one _ _ 3)).mono ?_
  rintro e w2 ⟨vb, rfl, hsb, hb2⟩
  rw [aw2, aw2'] at hsb
  rw [aw3]
  exact ⟨vb, rfl, hsb.toIn, bstep (below_alloc _ _) hb2⟩
theorem nrm1 : nrm [21, 3] = true := by decide +kernel
theorem nrm2 : nrm [4] = true := by decide +kernel
theorem nrm3 : nrm [12] = true := by decide +kernel
theorem nrm4 : nrm [18] = true := by decide +kernel
theorem aw_DivMod (w : World) (va : Value) (h : In w va [21, 3]) : Calls Try.prog 70 #[va, .slice (some ⟨w.heap.size, 0, none⟩) 1 1] (w.alloc (.cells #[.int .i64 4] 3)) fun e w' => ∃ vq vr, e = .returned (.tuple #[vq, vr, .int .i64 0]) ∧ In w' vq [750000005] ∧ In w' vr [1] ∧ Below w.heap.size w w' := by
  refine (DivMod_of [21, 3] [4] _ _ _ (h.alloc _) (in_one _ _ 4) (fun _ _ _ => divide_short [21, 3] [4] _ _ _ (h.alloc _) (in_one _ _ 4) nrm1 nrm2 (by simp) (by simp))).mono ?_
  rintro e w3 ⟨vq, vr, rfl, hq, hr, hb3⟩
  rw [aw4, aw4'] at hq
  rw [aw5, aw5'] at hr
  rw [aw6]
  exact ⟨vq, vr, rfl, hq.toIn, hr.toIn, bstep (below_alloc _ _) hb3⟩
theorem aw_Gcd (w : World) : Calls Try.prog 69 #[.slice (some ⟨w.heap.size, 0, none⟩) 1 1, .slice (some ⟨w.heap.size + 1, 0, none⟩) 1 1] ((w.alloc (.cells #[.int .i64 12] 3)).alloc (.cells #[.int .i64 18] 3)) fun e w' => ∃ v, e = .returned (.tuple #[v, .int .i64 0]) ∧ In w' v [6] ∧ Below w.heap.size w w' := by
  have hi1 := (in_one w 3 12).alloc (.cells #[.int .i64 18] 3)
  have hi2 := in_one (w.alloc (.cells #[.int .i64 12] 3)) 3 18
  have hs : (w.alloc (.cells #[.int .i64 12] 3)).heap.size = w.heap.size + 1 := by simp
  rw [hs] at hi2
  refine (Gcd_of [12] [18] _ _ _ hi1 hi2 (fun _ _ => gcd_short [12] [18] _ _ _ hi1 hi2 nrm3 nrm4 (by simp) (by simp) (fun _ => divide_short [12] [18] _ _ _ hi1 hi2 nrm3 nrm4 (by simp) (by simp)))).mono ?_
  rintro e w4 ⟨vg, rfl, hg, hb4⟩
  rw [aw7, aw7'] at hg
  rw [aw8]
  exact ⟨vg, rfl, hg.toIn, bstep (balloc (below_alloc _ _) _) hb4⟩
theorem aw_Same1 (w : World) (va : Value) (x : Int) (h : In w va [x]) : Calls Try.prog 34 #[va, .slice (some ⟨w.heap.size, 0, none⟩) 1 1] (w.alloc (.cells #[.int .i64 x] 3)) fun e w' => e = .returned (.bool true) ∧ Below w.heap.size w w' := by
  refine (same_in [x] [x] _ _ _ (h.alloc _) (in_one _ _ x)).mono ?_
  rintro e w1 ⟨rfl, hb⟩
  exact ⟨by rw [decide_eq_true rfl], bstep (below_alloc _ _) hb⟩
theorem aw_Same2 (w : World) (va : Value) (x y : Int) (h : In w va [x, y]) : Calls Try.prog 34 #[va, .slice (some ⟨w.heap.size, 0, none⟩) 2 2] (w.alloc (.cells #[.int .i64 x, .int .i64 y] 3)) fun e w' => e = .returned (.bool true) ∧ Below w.heap.size w w' := by
  refine (same_in [x, y] [x, y] _ _ _ (h.alloc _) (in_two _ _ x y)).mono ?_
  rintro e w1 ⟨rfl, hb⟩
  exact ⟨by rw [decide_eq_true rfl], bstep (below_alloc _ _) hb⟩

end Go.Proofs.Ytohfaoclemcfaaa
