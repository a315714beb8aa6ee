/- Contracts of form of the reference, and appendForm of the program. -/
import Derived.Test.YthiebggamfmjgaaDoorFieldB
import Derived.Test.YthiebggamfmjgaaDoorShelf
import Derived.Deep.CutRange
import Derived.Deep.DeepCutAuto
import Derived.Deep.RegionHeldLaw
import Derived.Deep.RegionWith
namespace Go.Proofs.YthiebggamfmjgaaDoor.Field
open Go.ChangeShapes Go.WideShapes Go.RowKit
set_option linter.unusedVariables false
set_option maxRecDepth 100000

theorem any_isS (l : List UInt8) : l.any isS = (l.any (· == 32) || l.any (· == 34) || l.any (· == 92)) := by
  induction l with
  | nil => rfl
  | cons b r ih =>
    rw [List.any_cons, List.any_cons, List.any_cons, List.any_cons, ih]
    unfold isS
    cases b == 32 <;> cases b == 34 <;> cases b == 92 <;> cases r.any (· == 32) <;> cases r.any (· == 34) <;> cases r.any (· == 92) <;> rfl
theorem plain_has (s : ByteArray) : plainF (ls s) = (!(ls s).isEmpty && !(hasS s 32 || hasS s 34 || hasS s 92)) := by
  unfold plainF; rw [any_isS]; rfl
theorem emp_of (s : ByteArray) : s.toList.isEmpty = (ls s).isEmpty := by rw [ByteArray.toList_eq]; rfl
theorem emp_iff {s : ByteArray} : (ls s).isEmpty = true ↔ s.size = 0 := by
  rw [List.isEmpty_iff]
  exact ⟨fun h => by rw [← str_len, (show s.data.toList = [] from h)]; rfl, fun h => List.eq_nil_of_length_eq_zero (by rw [← h]; exact str_len s)⟩
theorem ls_len (s : ByteArray) : (ls s).length = s.size := str_len s
theorem formL_plain {l : List UInt8} (h : plainF l = true) : formL l = l := by unfold formL; rw [if_pos h]
theorem formL_quoted {l : List UInt8} (h : plainF l = false) : formL l = 34 :: (esc l ++ [34]) := by unfold formL; rw [if_neg (by simp [h])]
theorem esc_next {s : ByteArray} {k : Nat} {b : UInt8} (h : s.data.toList[k]? = some b) : esc ((ls s).take (k + 1)) = esc ((ls s).take k) ++ (if isQ b then [92, b] else [b]) := by
  have e : (ls s).take (k + 1) = (ls s).take k ++ [b] := take_snoc_of h
  rw [e, esc_append, esc_one]
theorem ls_full (s : ByteArray) : (ls s).take s.size = ls s := by rw [← ls_len, List.take_length]
theorem cat_lit (a : List UInt8) (b : UInt8) (h : a.length + 1 ≤ 9223372036854775807) (W : World) : (Op.stringOp .add (bs a) ⟨#[b]⟩).run Tryd.prog W = .ok (.string (bs (a ++ [b]))) W := cat_bs a [b] h W
/-- A byte is a quotation mark, a backslash, or neither: the tests. -/
theorem byte_ways (b : UInt8) : ((((b.toNat : Nat) : Int) == 34) = true ∧ b = 34) ∨ ((((b.toNat : Nat) : Int) == 34) = false ∧ (((b.toNat : Nat) : Int) == 92) = true ∧ b = 92) ∨ ((((b.toNat : Nat) : Int) == 34) = false ∧ (((b.toNat : Nat) : Int) == 92) = false ∧ isQ b = false) := by
  have h1 := byt_beq (b := b) 34 (n := 34) rfl
  have h2 := byt_beq (b := b) 92 (n := 92) rfl
  unfold isQ
  by_cases e1 : b = 34
  · subst e1; exact Or.inl ⟨rfl, rfl⟩
  · by_cases e2 : b = 92
    · subst e2; exact Or.inr (Or.inl ⟨rfl, rfl, rfl⟩)
    · have f1 : (b == 34) = false := by simpa using e1
      have f2 : (b == 92) = false := by simpa using e2
      rw [h1, h2, f1, f2]; exact Or.inr (Or.inr ⟨rfl, rfl, rfl⟩)

set_option maxHeartbeats 1600000 in
theorem ref_form (s : ByteArray) (w : World) (hm : s.size ≤ 1000000) : Calls Tryd.prog 31 #[.string s] w fun e w' => e = .returned (.string (bs (formL (ls s)))) ∧ w = w' := by
  have hm1 : s.size ≤ 9223372036854775807 := by omega
  obtain ⟨p, hp⟩ : ∃ p, plainF (ls s) = p := ⟨_, rfl⟩
  have HP := Lib.hid hp
  have HE := Lib.hid (emp_of s)
  have HPH := Lib.hid ((plain_has s).symm.trans hp)
  clear hp
  go_enter Tryd.func31, Tryd.ntmps31
  go_upto_region 1 with fail
  go_cut [21] (fun v wc => v = .bool p ∧ w = wc)
  case first =>
    cases h0 : (ls s).isEmpty with
    | true =>
      have hq : s.toList.isEmpty = true := HE.out.trans h0
      have e : Hid (false = p) := by have := HPH.out; rw [h0] at this; exact this
      clear h0
      go_wp2_with fail
      go_meet
      case rel => exact ⟨congrArg Value.bool e.out, rfl⟩
    | false =>
      have hq : s.toList.isEmpty = false := HE.out.trans h0
      have e0 : Hid ((!(hasS s 32 || hasS s 34 || hasS s 92)) = p) := by have := HPH.out; rw [h0] at this; exact this
      clear h0
      cases h1 : hasS s 32 with
      | true =>
        have HC := Lib.hid (has_is 32 (n := 32) rfl h1 hm1 w)
        have e : Hid (false = p) := by have := e0.out; rw [h1] at this; exact this
        clear h1
        go_wp2_with fail
        refine HC.out.mono ?_
        rintro e1 w1 ⟨rfl, rfl⟩
        go_wp2_with fail
        go_meet
        case rel => exact ⟨congrArg Value.bool e.out, rfl⟩
      | false =>
        have HC := Lib.hid (has_is 32 (n := 32) rfl h1 hm1 w)
        have e0' : Hid ((!(hasS s 34 || hasS s 92)) = p) := by have := e0.out; rw [h1] at this; exact this
        clear h1
        cases h2 : hasS s 34 with
        | true =>
          have HC2 := Lib.hid (has_is 34 (n := 34) rfl h2 hm1 w)
          have e : Hid (false = p) := by have := e0'.out; rw [h2] at this; exact this
          clear h2
          go_wp2_with fail
          refine HC.out.mono ?_
          rintro e1 w1 ⟨rfl, rfl⟩
          go_wp2_with fail
          refine HC2.out.mono ?_
          rintro e1 w1 ⟨rfl, rfl⟩
          go_wp2_with fail
          go_meet
          case rel => exact ⟨congrArg Value.bool e.out, rfl⟩
        | false =>
          have HC2 := Lib.hid (has_is 34 (n := 34) rfl h2 hm1 w)
          obtain ⟨h3, hh3⟩ : ∃ b, hasS s 92 = b := ⟨_, rfl⟩
          have HC3 := Lib.hid (has_is 92 (n := 92) rfl hh3 hm1 w)
          have e : Hid ((!h3) = p) := by have := e0'.out; rw [h2, hh3] at this; exact this
          clear h2 hh3
          go_wp2_with fail
          refine HC.out.mono ?_
          rintro e1 w1 ⟨rfl, rfl⟩
          go_wp2_with fail
          refine HC2.out.mono ?_
          rintro e1 w1 ⟨rfl, rfl⟩
          go_wp2_with fail
          refine HC3.out.mono ?_
          rintro e1 w1 ⟨rfl, rfl⟩
          go_wp2_with fail
          go_meet
          case rel => exact ⟨congrArg Value.bool e.out, rfl⟩
  case rest =>
    obtain ⟨rfl, rfl⟩ := hcut
    cases p with
    | true =>
      go_wp2_with fail
      go_ret
      exact ⟨ret_str (by rw [formL_plain HP.out]; exact (bs_of s).symm), rfl⟩
    | false =>
      go_wp2_with fail
      go_loop [3, 4] (fun o i => ∃ k : Nat, k ≤ s.size ∧ o = .string (bs (34 :: esc ((ls s).take k))) ∧ i = .int .i64 k) (fun _ i => s.size - (intOf i).toNat)
      case atStart => exact ⟨0, Nat.zero_le _, rfl, rfl⟩
      case round =>
        obtain ⟨k, hk, rfl, rfl⟩ := hrel
        obtain ⟨X, hX⟩ : ∃ X, X = 34 :: esc ((ls s).take k) := ⟨_, rfl⟩
        have hXl : X.length ≤ 2000001 := by
          rw [hX, List.length_cons]
          have h1 := esc_len ((ls s).take k)
          have h2 : ((ls s).take k).length ≤ k := List.length_take_le _ _
          omega
        rw [← hX]
        rcases Nat.lt_or_ge k s.size with hlt | hge
        · have HG := Lib.hid (str_get? s hlt)
          have HN := Lib.hid (esc_next HG.out)
          have he := ext_one s hlt
          have i1 : (0 : Int) ≤ (k : Int) := by omega
          have i2 : (k : Int) ≤ (k : Int) + 1 := by omega
          have i3 : (k : Int) + 1 ≤ (s.size : Int) := by omega
          have HX := Lib.hid hX
          rcases byte_ways s[k] with ⟨t1, e1⟩ | ⟨t1, t2, e1⟩ | ⟨t1, t2, e1⟩
          · have C1 := cat_lit X 92 (by omega)
            have C2 := cat_bs (X ++ [92]) [s[k]] (by simp; omega)
            have HR : Hid (X ++ [92, s[k]] = 34 :: esc ((ls s).take (k + 1))) := by
              show _ = _
              rw [HN.out, HX.out, e1]; simp [isQ]
            clear hX hXl e1
            go_wp2_with fail
            go_round
            case rel => exact ⟨k + 1, by omega, by rw [HR.out], by go_num⟩
            case measure => simp [intOf]; omega
          · have C1 := cat_lit X 92 (by omega)
            have C2 := cat_bs (X ++ [92]) [s[k]] (by simp; omega)
            have HR : Hid (X ++ [92, s[k]] = 34 :: esc ((ls s).take (k + 1))) := by
              show _ = _
              rw [HN.out, HX.out, e1]; simp [isQ]
            clear hX hXl e1
            go_wp2_with fail
            go_round
            case rel => exact ⟨k + 1, by omega, by rw [HR.out], by go_num⟩
            case measure => simp [intOf]; omega
          · have C2 := cat_bs X [s[k]] (by simp; omega)
            have HR : Hid (X ++ [s[k]] = 34 :: esc ((ls s).take (k + 1))) := by
              show _ = _
              rw [HN.out, HX.out, e1]; simp
            clear hX hXl e1
            go_wp2_with fail
            go_round
            case rel => exact ⟨k + 1, by omega, by rw [HR.out], by go_num⟩
            case measure => simp [intOf]; omega
        · obtain rfl : k = s.size := by omega
          have C1 := cat_lit X 34 (by omega)
          have HR : Hid (X ++ [34] = formL (ls s)) := by
            show _ = _
            rw [formL_quoted HP.out, hX, ls_full]; rfl
          clear hX hXl
          go_wp2_with fail
          go_ret
          exact ⟨ret_str (by rw [HR.out]), rfl⟩

/-! ### appendForm -/
theorem ascii_of {s : ByteArray} (h : okS s = true) : ∀ (j : Nat) b, s.data.toList[j]? = some b → b.toNat < 128 := fun j b hj => by
  have h1 := List.all_eq_true.mp (show s.data.toList.all okB = true from h) b (List.mem_of_getElem? hj)
  simp [okB] at h1; omega
theorem specials_ascii : ∀ (j : Nat) b, (ByteArray.mk #[32, 34, 92]).data.toList[j]? = some b → b.toNat < 128 := fun j b hj => by
  have h1 : b ∈ [(32 : UInt8), 34, 92] := List.mem_of_getElem? hj
  rcases List.mem_cons.mp h1 with rfl | h1
  · decide
  · rcases List.mem_cons.mp h1 with rfl | h1
    · decide
    · have := List.mem_singleton.mp h1; subst this; decide
theorem contains_any (l : List UInt8) : Lib.containsAny l [32, 34, 92] = l.any isS := by
  have h : ∀ l : List UInt8, (0 ≤ Lib.indexAny l [32, 34, 92] ↔ l.any isS = true) := by
    intro l
    induction l with
    | nil => simp [Lib.indexAny]
    | cons b r ih =>
      have hg := Lib.indexAny_ge [32, 34, 92] r
      have hc : ([32, 34, 92] : List UInt8).contains b = isS b := by
        unfold isS
        simp only [List.contains_cons, List.contains_nil, Bool.or_false, Bool.or_assoc]
      rw [List.any_cons, Lib.indexAny, hc]
      cases isS b with
      | true => simp
      | false =>
        rw [if_neg (by simp), Bool.false_or, ← ih]
        split
        · next h => have := beq_iff_eq.mp h; omega
        · next h => have : ¬ Lib.indexAny r [32, 34, 92] = -1 := fun e => h (beq_iff_eq.mpr e); omega
  unfold Lib.containsAny
  rw [Bool.eq_iff_iff, decide_eq_true_eq]; exact h l
theorem any_is {s : ByteArray} {b : Bool} (h : (ls s).any isS = b) (hok : okS s = true) (hm : s.size ≤ 1000000) (w : World) :
    Calls Tryd.prog 46 #[.string s, .string ⟨#[32, 34, 92]⟩] w fun e w' => e = .returned (.bool b) ∧ Below w.heap.size w w' := by
  have h1 := Tryd.strings_ContainsAny_laid s ⟨#[32, 34, 92]⟩ w (by omega) (by decide) (ascii_of hok) specials_ascii
  have e : Lib.containsAny s.data.toList (ByteArray.mk #[32, 34, 92]).data.toList = b := (contains_any s.data.toList).trans h
  rw [e] at h1; exact h1

set_option maxHeartbeats 1600000 in
theorem field_appendForm (B : Nat) (v : Value) (l : List UInt8) (s : ByteArray) (w : World) (hown : OwnY B w v l) (hB : B ≤ w.heap.size) (hok : okS s = true) (hl : l.length ≤ 5000) (hm : s.size ≤ 5000) :
    Calls Tryd.prog 30 #[v, .string s] w fun e w' => ∃ v', e = .returned v' ∧ OwnY B w' v' (l ++ formL (ls s)) ∧ Below B w w' := by
  obtain ⟨p, hp⟩ : ∃ p, plainF (ls s) = p := ⟨_, rfl⟩
  have HP := Lib.hid hp
  have HE := Lib.hid (emp_of s)
  have HPH : Hid ((!(ls s).isEmpty && !(ls s).any isS) = p) := hp
  have HOK := Lib.hid hok
  have HO := Lib.hid hown
  obtain ⟨A, c, rfl, hc1, hc2⟩ := hown.len
  clear hp hok hown
  go_enter Tryd.func30, Tryd.ntmps30
  go_upto_region 1 with fail
  go_cut [12] (fun x wc => x = .bool p ∧ Below w.heap.size w wc)
  case first =>
    cases h0 : (ls s).isEmpty with
    | true =>
      have hq : s.toList.isEmpty = true := HE.out.trans h0
      have e : Hid (false = p) := by have := HPH.out; rw [h0] at this; exact this
      clear h0
      go_wp2_with fail
      go_meet
      case rel => exact ⟨congrArg Value.bool e.out, Below.refl _ _⟩
    | false =>
      have hq : s.toList.isEmpty = false := HE.out.trans h0
      obtain ⟨b, hb⟩ : ∃ b, (ls s).any isS = b := ⟨_, rfl⟩
      have HC := Lib.hid (any_is hb HOK.out (by omega) w)
      have e : Hid ((!b) = p) := by have := HPH.out; rw [h0, hb] at this; exact this
      clear h0 hb
      go_wp2_with fail
      refine HC.out.mono ?_
      rintro e1 w1 ⟨rfl, hb1⟩
      have HB1 := Lib.hid hb1
      clear hb1
      go_wp2_with fail
      go_meet
      case rel => exact ⟨congrArg Value.bool e.out, HB1.out⟩
  case rest =>
    obtain ⟨rfl, hbel⟩ := hcut
    have HB := Lib.hid hbel
    have HO1 := Lib.hid (HO.out.on hbel)
    have HBB : Hid (B ≤ wc.heap.size) := Nat.le_trans hB hbel.size
    clear hbel
    cases p with
    | true =>
      have HL : Hid (l.length + s.size ≤ 1000000) := show _ ≤ _ by omega
      go_wp2_with (at_builtin; refine append_text rfl _ _ rfl B _ l rfl HO1.out s rfl HL.out HBB.out ?_; intro v' w2 hown2 hg2; refine Hid.out ?_)
      refine Lib.hid ?_
      have HO2 := Lib.hid hown2
      have HB2 := Lib.hid (own_below HO1.out hg2 HBB.out)
      clear hown2 hg2
      go_wp2_with fail
      go_ret
      exact ⟨v', rfl, by rw [formL_plain HP.out]; exact HO2.out, (HB.out.mono hB).trans HB2.out⟩
    | false =>
      go_wp2_with (at_builtin; refine append_byte rfl _ _ rfl B (.slice A l.length c) l rfl (HO1.out.alloc _) wc.heap.size 1 34 34 rfl rfl (byte_one _ _ _ rfl) (by omega) (by simp; have := HBB.out; omega) ?_; intro v' w2 hown2 hg2 _; refine Hid.out ?_)
      refine Lib.hid ?_
      have HO2 := Lib.hid hown2
      have HB2 := Lib.hid ((below_alloc wc _).mono HBB.out |>.trans (own_below (HO1.out.alloc _) hg2 (Nat.le_trans HBB.out (below_alloc wc _).size)))
      clear hown2 hg2
      go_wp2_with fail
      go_loopw [0, 21] (fun v i wr => ∃ (k : Nat) (l' : List UInt8), k ≤ s.size ∧ i = .int .i64 k ∧ l' = l ++ 34 :: esc ((ls s).take k) ∧ OwnY B wr v l' ∧ Below B w wr) (fun _ i _ => s.size - (intOf i).toNat)
      case atStart => exact ⟨0, _, Nat.zero_le _, rfl, rfl, HO2.out, (HB.out.mono hB).trans HB2.out⟩
      case round =>
        obtain ⟨k, l', hk, rfl, hl', hown, hbel⟩ := hrel
        have hlen : l'.length ≤ 15001 := by
          rw [hl', List.length_append, List.length_cons]
          have h1 := esc_len ((ls s).take k)
          have h2 : ((ls s).take k).length ≤ k := List.length_take_le _ _
          omega
        have HLL := Lib.hid hl'
        have HOW := Lib.hid hown
        have HBL := Lib.hid hbel
        have HBR : Hid (B ≤ wr.heap.size) := Nat.le_trans hB hbel.size
        clear hl' hown hbel
        rcases Nat.lt_or_ge k s.size with hlt | hge
        · have HG := Lib.hid (str_get? s hlt)
          have HN := Lib.hid (esc_next HG.out)
          rcases byte_ways s[k] with ⟨t1, e1⟩ | ⟨t1, t2, e1⟩ | ⟨t1, t2, e1⟩
          · have HR : Hid (l' ++ [92] ++ [s[k]] = l ++ 34 :: esc ((ls s).take (k + 1))) := by
              show _ = _
              rw [HN.out, HLL.out, e1]; simp [isQ]
            clear e1
            go_wp2_with (at_builtin; refine append_byte rfl _ _ rfl B _ l' rfl (HOW.out.alloc _) wr.heap.size 1 92 92 rfl rfl (byte_one _ _ _ rfl) (by omega) (by simp; have := HBR.out; omega) ?_; intro v1 w2 hown2 hg2 _; refine Hid.out ?_)
            refine Lib.hid ?_
            have HO3 := Lib.hid hown2
            have HB3 := Lib.hid ((below_alloc wr _).mono HBR.out |>.trans (own_below (HOW.out.alloc _) hg2 (Nat.le_trans HBR.out (below_alloc wr _).size)))
            have HBR3 : Hid (B ≤ w2.heap.size) := Nat.le_trans HBR.out HB3.out.size
            clear hown2 hg2
            go_wp2_with (at_builtin; refine append_byte rfl _ _ rfl B v1 (l' ++ [92]) rfl (HO3.out.alloc _) w2.heap.size 1 s[k] _ rfl rfl (byte_one _ _ _ rfl) (by simp; omega) (by simp; have := HBR3.out; omega) ?_; intro v2 w3 hown3 hg3 _; refine Hid.out ?_)
            refine Lib.hid ?_
            have HO4 := Lib.hid hown3
            have HB4 := Lib.hid ((below_alloc w2 _).mono HBR3.out |>.trans (own_below (HO3.out.alloc _) hg3 (Nat.le_trans HBR3.out (below_alloc w2 _).size)))
            clear hown3 hg3
            go_wp2_with fail
            go_roundw
            case rel => exact ⟨k + 1, _, by omega, by go_num, HR.out, HO4.out, HBL.out.trans (HB3.out.trans HB4.out)⟩
            case measure => simp [intOf]; omega
          · have HR : Hid (l' ++ [92] ++ [s[k]] = l ++ 34 :: esc ((ls s).take (k + 1))) := by
              show _ = _
              rw [HN.out, HLL.out, e1]; simp [isQ]
            clear e1
            go_wp2_with (at_builtin; refine append_byte rfl _ _ rfl B _ l' rfl (HOW.out.alloc _) wr.heap.size 1 92 92 rfl rfl (byte_one _ _ _ rfl) (by omega) (by simp; have := HBR.out; omega) ?_; intro v1 w2 hown2 hg2 _; refine Hid.out ?_)
            refine Lib.hid ?_
            have HO3 := Lib.hid hown2
            have HB3 := Lib.hid ((below_alloc wr _).mono HBR.out |>.trans (own_below (HOW.out.alloc _) hg2 (Nat.le_trans HBR.out (below_alloc wr _).size)))
            have HBR3 : Hid (B ≤ w2.heap.size) := Nat.le_trans HBR.out HB3.out.size
            clear hown2 hg2
            go_wp2_with (at_builtin; refine append_byte rfl _ _ rfl B v1 (l' ++ [92]) rfl (HO3.out.alloc _) w2.heap.size 1 s[k] _ rfl rfl (byte_one _ _ _ rfl) (by simp; omega) (by simp; have := HBR3.out; omega) ?_; intro v2 w3 hown3 hg3 _; refine Hid.out ?_)
            refine Lib.hid ?_
            have HO4 := Lib.hid hown3
            have HB4 := Lib.hid ((below_alloc w2 _).mono HBR3.out |>.trans (own_below (HO3.out.alloc _) hg3 (Nat.le_trans HBR3.out (below_alloc w2 _).size)))
            clear hown3 hg3
            go_wp2_with fail
            go_roundw
            case rel => exact ⟨k + 1, _, by omega, by go_num, HR.out, HO4.out, HBL.out.trans (HB3.out.trans HB4.out)⟩
            case measure => simp [intOf]; omega
          · have HR : Hid (l' ++ [s[k]] = l ++ 34 :: esc ((ls s).take (k + 1))) := by
              show _ = _
              rw [HN.out, HLL.out, e1]; simp
            clear e1
            go_wp2_with (at_builtin; refine append_byte rfl _ _ rfl B _ l' rfl (HOW.out.alloc _) wr.heap.size 1 s[k] _ rfl rfl (byte_one _ _ _ rfl) (by omega) (by simp; have := HBR.out; omega) ?_; intro v1 w2 hown2 hg2 _; refine Hid.out ?_)
            refine Lib.hid ?_
            have HO3 := Lib.hid hown2
            have HB3 := Lib.hid ((below_alloc wr _).mono HBR.out |>.trans (own_below (HOW.out.alloc _) hg2 (Nat.le_trans HBR.out (below_alloc wr _).size)))
            clear hown2 hg2
            go_wp2_with fail
            go_roundw
            case rel => exact ⟨k + 1, _, by omega, by go_num, HR.out, HO3.out, HBL.out.trans HB3.out⟩
            case measure => simp [intOf]; omega
        · obtain rfl : k = s.size := by omega
          have HR : Hid (l' ++ [34] = l ++ formL (ls s)) := by
            show _ = _
            rw [formL_quoted HP.out, HLL.out, ls_full]; simp
          go_wp2_with (at_builtin; refine append_byte rfl _ _ rfl B _ l' rfl (HOW.out.alloc _) wr.heap.size 1 34 34 rfl rfl (byte_one _ _ _ rfl) (by omega) (by simp; have := HBR.out; omega) ?_; intro v' w2 hown2 hg2 _; refine Hid.out ?_)
          refine Lib.hid ?_
          have HO3 := Lib.hid hown2
          have HB3 := Lib.hid ((below_alloc wr _).mono HBR.out |>.trans (own_below (HOW.out.alloc _) hg2 (Nat.le_trans HBR.out (below_alloc wr _).size)))
          clear hown2 hg2
          go_wp2_with fail
          go_ret
          exact ⟨v', rfl, by rw [← HR.out]; exact HO3.out, HBL.out.trans HB3.out⟩
#print axioms ref_form
#print axioms field_appendForm
end Go.Proofs.YthiebggamfmjgaaDoor.Field
