/- Several texts in one: RatX, RatY, CardKitR, RatAA. -/
import Derived.Test.YthkhaipbdphpeaaDoorPk8
import Derived.Test.YthkhaipbdphpeaaDoorPk2
import Derived.Test.YthkhaipbdphpeaaDoorPk1
import Derived.Test.YthkhaipbdphpeaaDoorTie
import Derived.Test.YthkhaipbdphpeaaDoorCards
import Derived.LaidMore
import Derived.Stop.Joined
import Derived.Stop.LaidErr
import Derived.Lib.LaidTab
import Derived.SevenTiedAt
import Derived.Deep.Slices
import Derived.Test.YthkhaipbdphpeaaDoorPk7
/- Contracts of Text of rat and of its reference. -/
namespace Go.Proofs.YthkhaipbdphpeaaDoor
open Go.ChangeShapes Go.WideShapes Go.RowKit
set_option linter.unusedVariables false
set_option maxRecDepth 100000

/-- The text of a number. -/
def txtL (r : Rat) : List UInt8 := (if negR r then [45] else []) ++ (Lib.decDigits r.num.natAbs ++ (if r.den = 1 then [] else 47 :: Lib.decDigits r.den))
def txtS (r : Rat) : ByteArray := ⟨(txtL r).toArray⟩
def txtW (b : Bool) (xs ys : List Int) : ByteArray := if valR b xs ys then txtS (ratV b xs ys) else ⟨#[]⟩
theorem txtW_no {b : Bool} {xs ys : List Int} (h : valR b xs ys = false) : txtW b xs ys = ⟨#[]⟩ := by unfold txtW; rw [h]; rfl
theorem txtW_form {r : Rat} (hr : fitR r = true) : txtW (negR r) (topL r) (botL r) = txtS r := by unfold txtW; rw [(form_val hr).1, (form_val hr).2]; rfl
theorem textV_limbs {n : Nat} (h : n < big48) : (textV (limbs n)).data.toList = Lib.decDigits n := by rw [textV, valid48 h, nvt]; rfl
theorem oneE_limbs {n : Nat} (h : n < big48) : oneE (limbs n) = 0 := by rw [oneE, valid48 h]; rfl
theorem text_short {n : Nat} (h : n < big48) : (textV (limbs n)).size ≤ 432 := by
  have hlt : n < 10 ^ (431 + 1) := by unfold big48 at h; rw [pow9, show 9 * 48 = 431 + 1 from rfl] at h; exact h
  have hlen := dec_len (k := 431) hlt
  rw [← textV_limbs h, str_len] at hlen
  omega
theorem txt_ff {r : Rat} (hr : fitR r = true) (h1 : negR r = false) (h2 : r.den = 1) : textV (topL r) = txtS r := by
  refine bytes_inj ?_
  unfold topL txtS txtL
  rw [textV_limbs (fitR_iff.mp hr).1, h1, h2]; simp
theorem txt_tf {r : Rat} (hr : fitR r = true) (h1 : negR r = true) (h2 : r.den = 1) : (⟨#[45]⟩ : ByteArray) ++ textV (topL r) = txtS r := by
  refine bytes_inj ?_
  unfold topL txtS txtL
  rw [ByteArray.data_append, Array.toList_append, textV_limbs (fitR_iff.mp hr).1, h1, h2]; simp
theorem txt_ft {r : Rat} (hr : fitR r = true) (h1 : negR r = false) (h2 : r.den ≠ 1) : textV (topL r) ++ ((⟨#[47]⟩ : ByteArray) ++ textV (botL r)) = txtS r := by
  refine bytes_inj ?_
  unfold topL botL txtS txtL
  rw [ByteArray.data_append, ByteArray.data_append, Array.toList_append, Array.toList_append, textV_limbs (fitR_iff.mp hr).1, textV_limbs (fitR_iff.mp hr).2, h1, if_neg h2]; simp
theorem txt_tt {r : Rat} (hr : fitR r = true) (h1 : negR r = true) (h2 : r.den ≠ 1) : ((⟨#[45]⟩ : ByteArray) ++ textV (topL r)) ++ ((⟨#[47]⟩ : ByteArray) ++ textV (botL r)) = txtS r := by
  refine bytes_inj ?_
  unfold topL botL txtS txtL
  rw [ByteArray.data_append, ByteArray.data_append, ByteArray.data_append, Array.toList_append, Array.toList_append, Array.toList_append, textV_limbs (fitR_iff.mp hr).1, textV_limbs (fitR_iff.mp hr).2, h1, if_neg h2]; simp
theorem bot_one (r : Rat) : decide (botL r = [1]) = decide (r.den = 1) := limbs_is_one r.den

set_option maxHeartbeats 1600000 in
theorem rat_Text_no (b : Bool) (xs ys : List Int) (v : Value) (w : World) (hv : InR w v b xs ys) (hn1 : valR b xs ys = false) :
    Calls Tryd.prog 17 #[v] w (fun e w' => e = .returned (.tuple #[.string (txtW b xs ys), .int .i64 (opH noE b xs ys)]) ∧ Below w.heap.size w w') := by
  have HN1 := Lib.hid hn1
  clear hn1
  obtain ⟨vp, vq, rfl, h1, h2⟩ := hv
  obtain ⟨A1, c1, rfl, h1'⟩ := in_open h1
  obtain ⟨A2, c2, rfl, h2'⟩ := in_open h2
  have H1 := Lib.hid h1'
  have H2 := Lib.hid h2'
  have HV := Lib.hid (show InR w (.agg #[.bool b, .slice A1 xs.length c1, .slice A2 ys.length c2]) b xs ys from ⟨_, _, rfl, h1', h2'⟩)
  have HCA := Lib.hid (Cel.new w (.bool b) (.slice A1 xs.length c1) (.slice A2 ys.length c2) 25)
  have hb0 : ∀ o1, Below w.heap.size w (w.alloc o1) := fun _ => below_alloc _ _
  have hz0 : ∀ o1, (w.alloc o1).heap.size = w.heap.size + 1 := fun _ => by simp
  have HB0 := Lib.hid hb0
  have HZ0 := Lib.hid hz0
  clear h1 h2 h1' h2' hb0 hz0
  go_enter Tryd.func17, Tryd.ntmps17
  go_wp2_with fail
  refine (rat_Valid _ _ _ _ _ (HV.out.on (HB0.out _ ))).mono ?_
  rw [HN1.out]
  rintro e w1 ⟨rfl, hb⟩
  have HZ1 : w.heap.size + 1 ≤ w1.heap.size := by have := hb.size; rw [HZ0.out] at this; exact this
  have HB1 : Hid (Below w.heap.size w w1) := (HB0.out _ ).trans (hb.mono (by rw [HZ0.out]; omega))
  have HCA1 := Lib.hid (HCA.out.on hb)
  clear hb
  go_wp2_with fail
  go_ret2
  rw [txtW_no HN1.out, opH_no HN1.out]
  exact ⟨rfl, HB1.out⟩

set_option maxHeartbeats 1600000 in
theorem rat_Text_ff (r : Rat) (hr : fitR r = true) (v : Value) (w : World) (hv : IsR w v r) (ht : Tab w) (hs : negR r = false) (hd : r.den = 1) :
    Calls Tryd.prog 17 #[v] w (fun e w' => e = .returned (.tuple #[.string (txtW (negR r) (topL r) (botL r)), .int .i64 (opH noE (negR r) (topL r) (botL r))]) ∧ Below w.heap.size w w') := by
  have HF : Hid (txtW (negR r) (topL r) (botL r) = txtS r ∧ opH noE (negR r) (topL r) (botL r) = 0) := ⟨txtW_form hr, (opH_form (f := negOp) hr).1⟩
  have HTX := Lib.hid (txt_ff hr hs hd)
  have HS := Lib.hid hs
  have HD : Hid (decide (botL r = [1]) = true) := by rw [Hid, bot_one]; exact decide_eq_true hd
  have HO1 : Hid (oneE (topL r) = 0) := oneE_limbs (fitR_iff.mp hr).1
  have HO2 : Hid (oneE (botL r) = 0) := oneE_limbs (fitR_iff.mp hr).2
  have hz1 : (textV (topL r)).size ≤ 432 := text_short (fitR_iff.mp hr).1
  have hz2 : (textV (botL r)).size ≤ 432 := text_short (fitR_iff.mp hr).2
  obtain ⟨S, hS⟩ : ∃ S, S = textV (topL r) := ⟨_, rfl⟩
  obtain ⟨T, hT⟩ : ∃ T, T = textV (botL r) := ⟨_, rfl⟩
  have PS := Lib.hid hS
  have PT := Lib.hid hT
  rw [← hS] at hz1 HTX
  rw [← hT] at hz2
  clear hs hd hS hT
  have HT := Lib.hid ht
  clear ht
  have HR := Lib.hid hr
  have HN1 := Lib.hid (form_val hr).1
  have BR := Lib.hid (fitR_iff.mp hr)
  clear hr
  obtain ⟨vp, vq, rfl, h1, h2⟩ := hv
  obtain ⟨A1, c1, rfl, h1'⟩ := in_open h1
  obtain ⟨A2, c2, rfl, h2'⟩ := in_open h2
  have H1 := Lib.hid h1'
  have H2 := Lib.hid h2'
  have HV := Lib.hid (show InR w (.agg #[.bool (negR r), .slice A1 (topL r).length c1, .slice A2 (botL r).length c2]) (negR r) (topL r) (botL r) from ⟨_, _, rfl, h1', h2'⟩)
  have HCA := Lib.hid (Cel.new w (.bool (negR r)) (.slice A1 (topL r).length c1) (.slice A2 (botL r).length c2) 25)
  have hb0 : ∀ o1, Below w.heap.size w (w.alloc o1) := fun _ => below_alloc _ _
  have hz0 : ∀ o1, (w.alloc o1).heap.size = w.heap.size + 1 := fun _ => by simp
  have HB0 := Lib.hid hb0
  have HZ0 := Lib.hid hz0
  clear h1 h2 h1' h2' hb0 hz0
  go_enter Tryd.func17, Tryd.ntmps17
  go_wp2_with fail
  refine (rat_Valid _ _ _ _ _ (HV.out.on (HB0.out _ ))).mono ?_
  rw [HN1.out]
  rintro e w1 ⟨rfl, hb⟩
  have HZ1 : w.heap.size + 1 ≤ w1.heap.size := by have := hb.size; rw [HZ0.out] at this; exact this
  have HB1 : Hid (Below w.heap.size w w1) := (HB0.out _ ).trans (hb.mono (by rw [HZ0.out]; omega))
  have HCA1 := Lib.hid (HCA.out.on hb)
  clear hb
  obtain ⟨⟨a0, a1, a2⟩, -⟩ : Cel w1 w.heap.size (.bool (negR r)) (.slice A1 (topL r).length c1) (.slice A2 (botL r).length c2) := HCA1.out
  go_wp2_with fail
  refine (nat_Text (topL r) _ w1 (H1.out.on HB1.out) (HT.out.on HB1.out)).mono ?_
  rw [HO1.out, ← PS.out]
  rintro e w2 ⟨rfl, hb⟩
  have HZ2 : w.heap.size + 1 ≤ w2.heap.size := by have := hb.size; omega
  have HB2 : Hid (Below w.heap.size w w2) := HB1.out.trans (hb.mono (by omega))
  have HCA2 := Lib.hid (HCA1.out.on hb)
  clear hb a0 a1 a2
  obtain ⟨⟨a0, a1, a2⟩, -⟩ : Cel w2 w.heap.size (.bool (negR r)) (.slice A1 (topL r).length c1) (.slice A2 (botL r).length c2) := HCA2.out
  rw [HS.out] at a0
  go_wp2_with fail
  refine (rat_isOne (botL r) _ w2 (H2.out.on HB2.out)).mono ?_
  rw [HD.out]
  rintro e w3 ⟨rfl, hb⟩
  have HZ3 : w.heap.size + 1 ≤ w3.heap.size := by have := hb.size; omega
  have HB3 : Hid (Below w.heap.size w w3) := HB2.out.trans (hb.mono (by omega))
  have HCA3 := Lib.hid (HCA2.out.on hb)
  clear hb a0 a1 a2
  go_wp2_with fail
  go_ret2
  rw [HF.out.1, HF.out.2, ← HTX.out]
  exact ⟨rfl, HB3.out⟩

set_option maxHeartbeats 1600000 in
theorem rat_Text_ft (r : Rat) (hr : fitR r = true) (v : Value) (w : World) (hv : IsR w v r) (ht : Tab w) (hs : negR r = false) (hd : r.den ≠ 1) :
    Calls Tryd.prog 17 #[v] w (fun e w' => e = .returned (.tuple #[.string (txtW (negR r) (topL r) (botL r)), .int .i64 (opH noE (negR r) (topL r) (botL r))]) ∧ Below w.heap.size w w') := by
  have HF : Hid (txtW (negR r) (topL r) (botL r) = txtS r ∧ opH noE (negR r) (topL r) (botL r) = 0) := ⟨txtW_form hr, (opH_form (f := negOp) hr).1⟩
  have HTX := Lib.hid (txt_ft hr hs hd)
  have HS := Lib.hid hs
  have HD : Hid (decide (botL r = [1]) = false) := by rw [Hid, bot_one]; exact decide_eq_false hd
  have HO1 : Hid (oneE (topL r) = 0) := oneE_limbs (fitR_iff.mp hr).1
  have HO2 : Hid (oneE (botL r) = 0) := oneE_limbs (fitR_iff.mp hr).2
  have hz1 : (textV (topL r)).size ≤ 432 := text_short (fitR_iff.mp hr).1
  have hz2 : (textV (botL r)).size ≤ 432 := text_short (fitR_iff.mp hr).2
  obtain ⟨S, hS⟩ : ∃ S, S = textV (topL r) := ⟨_, rfl⟩
  obtain ⟨T, hT⟩ : ∃ T, T = textV (botL r) := ⟨_, rfl⟩
  have PS := Lib.hid hS
  have PT := Lib.hid hT
  rw [← hS] at hz1 HTX
  rw [← hT] at hz2 HTX
  clear hs hd hS hT
  have HT := Lib.hid ht
  clear ht
  have HR := Lib.hid hr
  have HN1 := Lib.hid (form_val hr).1
  have BR := Lib.hid (fitR_iff.mp hr)
  clear hr
  obtain ⟨vp, vq, rfl, h1, h2⟩ := hv
  obtain ⟨A1, c1, rfl, h1'⟩ := in_open h1
  obtain ⟨A2, c2, rfl, h2'⟩ := in_open h2
  have H1 := Lib.hid h1'
  have H2 := Lib.hid h2'
  have HV := Lib.hid (show InR w (.agg #[.bool (negR r), .slice A1 (topL r).length c1, .slice A2 (botL r).length c2]) (negR r) (topL r) (botL r) from ⟨_, _, rfl, h1', h2'⟩)
  have HCA := Lib.hid (Cel.new w (.bool (negR r)) (.slice A1 (topL r).length c1) (.slice A2 (botL r).length c2) 25)
  have hb0 : ∀ o1, Below w.heap.size w (w.alloc o1) := fun _ => below_alloc _ _
  have hz0 : ∀ o1, (w.alloc o1).heap.size = w.heap.size + 1 := fun _ => by simp
  have HB0 := Lib.hid hb0
  have HZ0 := Lib.hid hz0
  clear h1 h2 h1' h2' hb0 hz0
  go_enter Tryd.func17, Tryd.ntmps17
  go_wp2_with fail
  refine (rat_Valid _ _ _ _ _ (HV.out.on (HB0.out _ ))).mono ?_
  rw [HN1.out]
  rintro e w1 ⟨rfl, hb⟩
  have HZ1 : w.heap.size + 1 ≤ w1.heap.size := by have := hb.size; rw [HZ0.out] at this; exact this
  have HB1 : Hid (Below w.heap.size w w1) := (HB0.out _ ).trans (hb.mono (by rw [HZ0.out]; omega))
  have HCA1 := Lib.hid (HCA.out.on hb)
  clear hb
  obtain ⟨⟨a0, a1, a2⟩, -⟩ : Cel w1 w.heap.size (.bool (negR r)) (.slice A1 (topL r).length c1) (.slice A2 (botL r).length c2) := HCA1.out
  go_wp2_with fail
  refine (nat_Text (topL r) _ w1 (H1.out.on HB1.out) (HT.out.on HB1.out)).mono ?_
  rw [HO1.out, ← PS.out]
  rintro e w2 ⟨rfl, hb⟩
  have HZ2 : w.heap.size + 1 ≤ w2.heap.size := by have := hb.size; omega
  have HB2 : Hid (Below w.heap.size w w2) := HB1.out.trans (hb.mono (by omega))
  have HCA2 := Lib.hid (HCA1.out.on hb)
  clear hb a0 a1 a2
  obtain ⟨⟨a0, a1, a2⟩, -⟩ : Cel w2 w.heap.size (.bool (negR r)) (.slice A1 (topL r).length c1) (.slice A2 (botL r).length c2) := HCA2.out
  rw [HS.out] at a0
  go_wp2_with fail
  refine (rat_isOne (botL r) _ w2 (H2.out.on HB2.out)).mono ?_
  rw [HD.out]
  rintro e w3 ⟨rfl, hb⟩
  have HZ3 : w.heap.size + 1 ≤ w3.heap.size := by have := hb.size; omega
  have HB3 : Hid (Below w.heap.size w w3) := HB2.out.trans (hb.mono (by omega))
  have HCA3 := Lib.hid (HCA2.out.on hb)
  clear hb a0 a1 a2
  obtain ⟨⟨a0, a1, a2⟩, -⟩ : Cel w3 w.heap.size (.bool (negR r)) (.slice A1 (topL r).length c1) (.slice A2 (botL r).length c2) := HCA3.out
  go_wp2_with fail
  refine (nat_Text (botL r) _ w3 (H2.out.on HB3.out) (HT.out.on HB3.out)).mono ?_
  rw [HO2.out, ← PT.out]
  rintro e w4 ⟨rfl, hb⟩
  have HB4 : Hid (Below w.heap.size w w4) := HB3.out.trans (hb.mono (by omega))
  clear hb a0 a1 a2
  go_wp2_with fail
  go_ret2
  rw [HF.out.1, HF.out.2, ← HTX.out]
  exact ⟨rfl, HB4.out⟩

set_option maxHeartbeats 1600000 in
theorem rat_Text_tf (r : Rat) (hr : fitR r = true) (v : Value) (w : World) (hv : IsR w v r) (ht : Tab w) (hs : negR r = true) (hd : r.den = 1) :
    Calls Tryd.prog 17 #[v] w (fun e w' => e = .returned (.tuple #[.string (txtW (negR r) (topL r) (botL r)), .int .i64 (opH noE (negR r) (topL r) (botL r))]) ∧ Below w.heap.size w w') := by
  have HF : Hid (txtW (negR r) (topL r) (botL r) = txtS r ∧ opH noE (negR r) (topL r) (botL r) = 0) := ⟨txtW_form hr, (opH_form (f := negOp) hr).1⟩
  have HTX := Lib.hid (txt_tf hr hs hd)
  have HS := Lib.hid hs
  have HD : Hid (decide (botL r = [1]) = true) := by rw [Hid, bot_one]; exact decide_eq_true hd
  have HO1 : Hid (oneE (topL r) = 0) := oneE_limbs (fitR_iff.mp hr).1
  have HO2 : Hid (oneE (botL r) = 0) := oneE_limbs (fitR_iff.mp hr).2
  have hz1 : (textV (topL r)).size ≤ 432 := text_short (fitR_iff.mp hr).1
  have hz2 : (textV (botL r)).size ≤ 432 := text_short (fitR_iff.mp hr).2
  obtain ⟨S, hS⟩ : ∃ S, S = textV (topL r) := ⟨_, rfl⟩
  obtain ⟨T, hT⟩ : ∃ T, T = textV (botL r) := ⟨_, rfl⟩
  have PS := Lib.hid hS
  have PT := Lib.hid hT
  rw [← hS] at hz1 HTX
  rw [← hT] at hz2
  clear hs hd hS hT
  have HT := Lib.hid ht
  clear ht
  have HR := Lib.hid hr
  have HN1 := Lib.hid (form_val hr).1
  have BR := Lib.hid (fitR_iff.mp hr)
  clear hr
  obtain ⟨vp, vq, rfl, h1, h2⟩ := hv
  obtain ⟨A1, c1, rfl, h1'⟩ := in_open h1
  obtain ⟨A2, c2, rfl, h2'⟩ := in_open h2
  have H1 := Lib.hid h1'
  have H2 := Lib.hid h2'
  have HV := Lib.hid (show InR w (.agg #[.bool (negR r), .slice A1 (topL r).length c1, .slice A2 (botL r).length c2]) (negR r) (topL r) (botL r) from ⟨_, _, rfl, h1', h2'⟩)
  have HCA := Lib.hid (Cel.new w (.bool (negR r)) (.slice A1 (topL r).length c1) (.slice A2 (botL r).length c2) 25)
  have hb0 : ∀ o1, Below w.heap.size w (w.alloc o1) := fun _ => below_alloc _ _
  have hz0 : ∀ o1, (w.alloc o1).heap.size = w.heap.size + 1 := fun _ => by simp
  have HB0 := Lib.hid hb0
  have HZ0 := Lib.hid hz0
  clear h1 h2 h1' h2' hb0 hz0
  go_enter Tryd.func17, Tryd.ntmps17
  go_wp2_with fail
  refine (rat_Valid _ _ _ _ _ (HV.out.on (HB0.out _ ))).mono ?_
  rw [HN1.out]
  rintro e w1 ⟨rfl, hb⟩
  have HZ1 : w.heap.size + 1 ≤ w1.heap.size := by have := hb.size; rw [HZ0.out] at this; exact this
  have HB1 : Hid (Below w.heap.size w w1) := (HB0.out _ ).trans (hb.mono (by rw [HZ0.out]; omega))
  have HCA1 := Lib.hid (HCA.out.on hb)
  clear hb
  obtain ⟨⟨a0, a1, a2⟩, -⟩ : Cel w1 w.heap.size (.bool (negR r)) (.slice A1 (topL r).length c1) (.slice A2 (botL r).length c2) := HCA1.out
  go_wp2_with fail
  refine (nat_Text (topL r) _ w1 (H1.out.on HB1.out) (HT.out.on HB1.out)).mono ?_
  rw [HO1.out, ← PS.out]
  rintro e w2 ⟨rfl, hb⟩
  have HZ2 : w.heap.size + 1 ≤ w2.heap.size := by have := hb.size; omega
  have HB2 : Hid (Below w.heap.size w w2) := HB1.out.trans (hb.mono (by omega))
  have HCA2 := Lib.hid (HCA1.out.on hb)
  clear hb a0 a1 a2
  obtain ⟨⟨a0, a1, a2⟩, -⟩ : Cel w2 w.heap.size (.bool (negR r)) (.slice A1 (topL r).length c1) (.slice A2 (botL r).length c2) := HCA2.out
  rw [HS.out] at a0
  go_wp2_with fail
  refine (rat_isOne (botL r) _ w2 (H2.out.on HB2.out)).mono ?_
  rw [HD.out]
  rintro e w3 ⟨rfl, hb⟩
  have HZ3 : w.heap.size + 1 ≤ w3.heap.size := by have := hb.size; omega
  have HB3 : Hid (Below w.heap.size w w3) := HB2.out.trans (hb.mono (by omega))
  have HCA3 := Lib.hid (HCA2.out.on hb)
  clear hb a0 a1 a2
  go_wp2_with fail
  go_ret2
  rw [HF.out.1, HF.out.2, ← HTX.out]
  exact ⟨rfl, HB3.out⟩

set_option maxHeartbeats 1600000 in
theorem rat_Text_tt (r : Rat) (hr : fitR r = true) (v : Value) (w : World) (hv : IsR w v r) (ht : Tab w) (hs : negR r = true) (hd : r.den ≠ 1) :
    Calls Tryd.prog 17 #[v] w (fun e w' => e = .returned (.tuple #[.string (txtW (negR r) (topL r) (botL r)), .int .i64 (opH noE (negR r) (topL r) (botL r))]) ∧ Below w.heap.size w w') := by
  have HF : Hid (txtW (negR r) (topL r) (botL r) = txtS r ∧ opH noE (negR r) (topL r) (botL r) = 0) := ⟨txtW_form hr, (opH_form (f := negOp) hr).1⟩
  have HTX := Lib.hid (txt_tt hr hs hd)
  have HS := Lib.hid hs
  have HD : Hid (decide (botL r = [1]) = false) := by rw [Hid, bot_one]; exact decide_eq_false hd
  have HO1 : Hid (oneE (topL r) = 0) := oneE_limbs (fitR_iff.mp hr).1
  have HO2 : Hid (oneE (botL r) = 0) := oneE_limbs (fitR_iff.mp hr).2
  have hz1 : (textV (topL r)).size ≤ 432 := text_short (fitR_iff.mp hr).1
  have hz2 : (textV (botL r)).size ≤ 432 := text_short (fitR_iff.mp hr).2
  obtain ⟨S, hS⟩ : ∃ S, S = textV (topL r) := ⟨_, rfl⟩
  obtain ⟨T, hT⟩ : ∃ T, T = textV (botL r) := ⟨_, rfl⟩
  have PS := Lib.hid hS
  have PT := Lib.hid hT
  rw [← hS] at hz1 HTX
  rw [← hT] at hz2 HTX
  clear hs hd hS hT
  have HT := Lib.hid ht
  clear ht
  have HR := Lib.hid hr
  have HN1 := Lib.hid (form_val hr).1
  have BR := Lib.hid (fitR_iff.mp hr)
  clear hr
  obtain ⟨vp, vq, rfl, h1, h2⟩ := hv
  obtain ⟨A1, c1, rfl, h1'⟩ := in_open h1
  obtain ⟨A2, c2, rfl, h2'⟩ := in_open h2
  have H1 := Lib.hid h1'
  have H2 := Lib.hid h2'
  have HV := Lib.hid (show InR w (.agg #[.bool (negR r), .slice A1 (topL r).length c1, .slice A2 (botL r).length c2]) (negR r) (topL r) (botL r) from ⟨_, _, rfl, h1', h2'⟩)
  have HCA := Lib.hid (Cel.new w (.bool (negR r)) (.slice A1 (topL r).length c1) (.slice A2 (botL r).length c2) 25)
  have hb0 : ∀ o1, Below w.heap.size w (w.alloc o1) := fun _ => below_alloc _ _
  have hz0 : ∀ o1, (w.alloc o1).heap.size = w.heap.size + 1 := fun _ => by simp
  have HB0 := Lib.hid hb0
  have HZ0 := Lib.hid hz0
  clear h1 h2 h1' h2' hb0 hz0
  go_enter Tryd.func17, Tryd.ntmps17
  go_wp2_with fail
  refine (rat_Valid _ _ _ _ _ (HV.out.on (HB0.out _ ))).mono ?_
  rw [HN1.out]
  rintro e w1 ⟨rfl, hb⟩
  have HZ1 : w.heap.size + 1 ≤ w1.heap.size := by have := hb.size; rw [HZ0.out] at this; exact this
  have HB1 : Hid (Below w.heap.size w w1) := (HB0.out _ ).trans (hb.mono (by rw [HZ0.out]; omega))
  have HCA1 := Lib.hid (HCA.out.on hb)
  clear hb
  obtain ⟨⟨a0, a1, a2⟩, -⟩ : Cel w1 w.heap.size (.bool (negR r)) (.slice A1 (topL r).length c1) (.slice A2 (botL r).length c2) := HCA1.out
  go_wp2_with fail
  refine (nat_Text (topL r) _ w1 (H1.out.on HB1.out) (HT.out.on HB1.out)).mono ?_
  rw [HO1.out, ← PS.out]
  rintro e w2 ⟨rfl, hb⟩
  have HZ2 : w.heap.size + 1 ≤ w2.heap.size := by have := hb.size; omega
  have HB2 : Hid (Below w.heap.size w w2) := HB1.out.trans (hb.mono (by omega))
  have HCA2 := Lib.hid (HCA1.out.on hb)
  clear hb a0 a1 a2
  obtain ⟨⟨a0, a1, a2⟩, -⟩ : Cel w2 w.heap.size (.bool (negR r)) (.slice A1 (topL r).length c1) (.slice A2 (botL r).length c2) := HCA2.out
  rw [HS.out] at a0
  go_wp2_with fail
  refine (rat_isOne (botL r) _ w2 (H2.out.on HB2.out)).mono ?_
  rw [HD.out]
  rintro e w3 ⟨rfl, hb⟩
  have HZ3 : w.heap.size + 1 ≤ w3.heap.size := by have := hb.size; omega
  have HB3 : Hid (Below w.heap.size w w3) := HB2.out.trans (hb.mono (by omega))
  have HCA3 := Lib.hid (HCA2.out.on hb)
  clear hb a0 a1 a2
  obtain ⟨⟨a0, a1, a2⟩, -⟩ : Cel w3 w.heap.size (.bool (negR r)) (.slice A1 (topL r).length c1) (.slice A2 (botL r).length c2) := HCA3.out
  go_wp2_with fail
  refine (nat_Text (botL r) _ w3 (H2.out.on HB3.out) (HT.out.on HB3.out)).mono ?_
  rw [HO2.out, ← PT.out]
  rintro e w4 ⟨rfl, hb⟩
  have HB4 : Hid (Below w.heap.size w w4) := HB3.out.trans (hb.mono (by omega))
  clear hb a0 a1 a2
  go_wp2_with fail
  go_ret2
  rw [HF.out.1, HF.out.2, ← HTX.out]
  exact ⟨rfl, HB4.out⟩

theorem rat_Text (b : Bool) (xs ys : List Int) (v : Value) (w : World) (hv : InR w v b xs ys) (ht : Tab w) :
    Calls Tryd.prog 17 #[v] w (fun e w' => e = .returned (.tuple #[.string (txtW b xs ys), .int .i64 (opH noE b xs ys)]) ∧ Below w.heap.size w w') := by
  rcases bcase (valR b xs ys) with h | h
  · obtain ⟨r, hr, rfl, rfl, rfl⟩ := val_form h
    rcases bcase (negR r) with hs | hs
    · by_cases hd : r.den = 1
      · exact rat_Text_tf r hr v w hv ht hs hd
      · exact rat_Text_tt r hr v w hv ht hs hd
    · by_cases hd : r.den = 1
      · exact rat_Text_ff r hr v w hv ht hs hd
      · exact rat_Text_ft r hr v w hv ht hs hd
  · exact rat_Text_no b xs ys v w hv h

set_option maxHeartbeats 1600000 in
theorem ref_Text3_no (b : Bool) (xs ys : List Int) (v : Value) (w : World) (hv : InR w v b xs ys) (hn1 : valR b xs ys = false) :
    Calls Tryd.prog 18 #[v] w (fun e w' => e = .returned (.tuple #[.string (txtW b xs ys), .int .i64 (opH noE b xs ys)]) ∧ Below w.heap.size w w') := by
  have HN1 := Lib.hid hn1
  clear hn1
  obtain ⟨vp, vq, rfl, h1, h2⟩ := hv
  obtain ⟨A1, c1, rfl, h1'⟩ := in_open h1
  obtain ⟨A2, c2, rfl, h2'⟩ := in_open h2
  have H1 := Lib.hid h1'
  have H2 := Lib.hid h2'
  have HV := Lib.hid (show InR w (.agg #[.bool b, .slice A1 xs.length c1, .slice A2 ys.length c2]) b xs ys from ⟨_, _, rfl, h1', h2'⟩)
  have HCA := Lib.hid (Cel.new w (.bool b) (.slice A1 xs.length c1) (.slice A2 ys.length c2) 25)
  have hb0 : ∀ o1, Below w.heap.size w (w.alloc o1) := fun _ => below_alloc _ _
  have hz0 : ∀ o1, (w.alloc o1).heap.size = w.heap.size + 1 := fun _ => by simp
  have HB0 := Lib.hid hb0
  have HZ0 := Lib.hid hz0
  clear h1 h2 h1' h2' hb0 hz0
  go_enter Tryd.func18, Tryd.ntmps18
  go_wp2_with fail
  refine (ref_Valid3 _ _ _ _ _ (HV.out.on (HB0.out _ ))).mono ?_
  rw [HN1.out]
  rintro e w1 ⟨rfl, hb⟩
  have HZ1 : w.heap.size + 1 ≤ w1.heap.size := by have := hb.size; rw [HZ0.out] at this; exact this
  have HB1 : Hid (Below w.heap.size w w1) := (HB0.out _ ).trans (hb.mono (by rw [HZ0.out]; omega))
  have HCA1 := Lib.hid (HCA.out.on hb)
  clear hb
  go_wp2_with fail
  go_ret2
  rw [txtW_no HN1.out, opH_no HN1.out]
  exact ⟨rfl, HB1.out⟩

set_option maxHeartbeats 1600000 in
theorem ref_Text3_ff (r : Rat) (hr : fitR r = true) (v : Value) (w : World) (hv : IsR w v r) (hs : negR r = false) (hd : r.den = 1) :
    Calls Tryd.prog 18 #[v] w (fun e w' => e = .returned (.tuple #[.string (txtW (negR r) (topL r) (botL r)), .int .i64 (opH noE (negR r) (topL r) (botL r))]) ∧ Below w.heap.size w w') := by
  have HF : Hid (txtW (negR r) (topL r) (botL r) = txtS r ∧ opH noE (negR r) (topL r) (botL r) = 0) := ⟨txtW_form hr, (opH_form (f := negOp) hr).1⟩
  have HTX := Lib.hid (txt_ff hr hs hd)
  have HS := Lib.hid hs
  have HD : Hid (decide (botL r = [1]) = true) := by rw [Hid, bot_one]; exact decide_eq_true hd
  have HO1 : Hid (oneE (topL r) = 0) := oneE_limbs (fitR_iff.mp hr).1
  have HO2 : Hid (oneE (botL r) = 0) := oneE_limbs (fitR_iff.mp hr).2
  have hz1 : (textV (topL r)).size ≤ 432 := text_short (fitR_iff.mp hr).1
  have hz2 : (textV (botL r)).size ≤ 432 := text_short (fitR_iff.mp hr).2
  obtain ⟨S, hS⟩ : ∃ S, S = textV (topL r) := ⟨_, rfl⟩
  obtain ⟨T, hT⟩ : ∃ T, T = textV (botL r) := ⟨_, rfl⟩
  have PS := Lib.hid hS
  have PT := Lib.hid hT
  rw [← hS] at hz1 HTX
  rw [← hT] at hz2
  clear hs hd hS hT
  have HR := Lib.hid hr
  have HN1 := Lib.hid (form_val hr).1
  have BR := Lib.hid (fitR_iff.mp hr)
  clear hr
  obtain ⟨vp, vq, rfl, h1, h2⟩ := hv
  obtain ⟨A1, c1, rfl, h1'⟩ := in_open h1
  obtain ⟨A2, c2, rfl, h2'⟩ := in_open h2
  have H1 := Lib.hid h1'
  have H2 := Lib.hid h2'
  have HV := Lib.hid (show InR w (.agg #[.bool (negR r), .slice A1 (topL r).length c1, .slice A2 (botL r).length c2]) (negR r) (topL r) (botL r) from ⟨_, _, rfl, h1', h2'⟩)
  have HCA := Lib.hid (Cel.new w (.bool (negR r)) (.slice A1 (topL r).length c1) (.slice A2 (botL r).length c2) 25)
  have hb0 : ∀ o1, Below w.heap.size w (w.alloc o1) := fun _ => below_alloc _ _
  have hz0 : ∀ o1, (w.alloc o1).heap.size = w.heap.size + 1 := fun _ => by simp
  have HB0 := Lib.hid hb0
  have HZ0 := Lib.hid hz0
  clear h1 h2 h1' h2' hb0 hz0
  go_enter Tryd.func18, Tryd.ntmps18
  go_wp2_with fail
  refine (ref_Valid3 _ _ _ _ _ (HV.out.on (HB0.out _ ))).mono ?_
  rw [HN1.out]
  rintro e w1 ⟨rfl, hb⟩
  have HZ1 : w.heap.size + 1 ≤ w1.heap.size := by have := hb.size; rw [HZ0.out] at this; exact this
  have HB1 : Hid (Below w.heap.size w w1) := (HB0.out _ ).trans (hb.mono (by rw [HZ0.out]; omega))
  have HCA1 := Lib.hid (HCA.out.on hb)
  clear hb
  obtain ⟨⟨a0, a1, a2⟩, -⟩ : Cel w1 w.heap.size (.bool (negR r)) (.slice A1 (topL r).length c1) (.slice A2 (botL r).length c2) := HCA1.out
  go_wp2_with fail
  refine (ref_Text (topL r) _ w1 (H1.out.on HB1.out)).mono ?_
  rw [HO1.out, ← PS.out]
  rintro e w2 ⟨rfl, hww⟩
  have HZ2 : w.heap.size + 1 ≤ w2.heap.size := by rw [← hww]; exact HZ1
  have HB2 : Hid (Below w.heap.size w w2) := by rw [← hww]; exact HB1.out
  have HCA2 : Hid (Cel w2 w.heap.size (.bool (negR r)) (.slice A1 (topL r).length c1) (.slice A2 (botL r).length c2)) := by rw [← hww]; exact HCA1.out
  clear hww a0 a1 a2
  obtain ⟨⟨a0, a1, a2⟩, -⟩ : Cel w2 w.heap.size (.bool (negR r)) (.slice A1 (topL r).length c1) (.slice A2 (botL r).length c2) := HCA2.out
  rw [HS.out] at a0
  go_wp2_with fail
  refine (limbs_in (botL r) [1] _ _ _ ((H2.out.on HB2.out).alloc _) (in_one _ _ 1)).mono ?_
  rw [HD.out]
  rintro e w3 ⟨rfl, hb⟩
  have hb3 := (below_alloc w2 (.cells #[.int .i64 1] 3)).trans (hb.mono (by simp))
  have HZ3 : w.heap.size + 1 ≤ w3.heap.size := by have := hb3.size; omega
  have HB3 : Hid (Below w.heap.size w w3) := HB2.out.trans (hb3.mono (by omega))
  have HCA3 := Lib.hid (HCA2.out.on hb3)
  clear hb3
  clear hb a0 a1 a2
  go_wp2_with fail
  go_ret2
  rw [HF.out.1, HF.out.2, ← HTX.out]
  exact ⟨rfl, HB3.out⟩

set_option maxHeartbeats 1600000 in
theorem ref_Text3_ft (r : Rat) (hr : fitR r = true) (v : Value) (w : World) (hv : IsR w v r) (hs : negR r = false) (hd : r.den ≠ 1) :
    Calls Tryd.prog 18 #[v] w (fun e w' => e = .returned (.tuple #[.string (txtW (negR r) (topL r) (botL r)), .int .i64 (opH noE (negR r) (topL r) (botL r))]) ∧ Below w.heap.size w w') := by
  have HF : Hid (txtW (negR r) (topL r) (botL r) = txtS r ∧ opH noE (negR r) (topL r) (botL r) = 0) := ⟨txtW_form hr, (opH_form (f := negOp) hr).1⟩
  have HTX := Lib.hid (txt_ft hr hs hd)
  have HS := Lib.hid hs
  have HD : Hid (decide (botL r = [1]) = false) := by rw [Hid, bot_one]; exact decide_eq_false hd
  have HO1 : Hid (oneE (topL r) = 0) := oneE_limbs (fitR_iff.mp hr).1
  have HO2 : Hid (oneE (botL r) = 0) := oneE_limbs (fitR_iff.mp hr).2
  have hz1 : (textV (topL r)).size ≤ 432 := text_short (fitR_iff.mp hr).1
  have hz2 : (textV (botL r)).size ≤ 432 := text_short (fitR_iff.mp hr).2
  obtain ⟨S, hS⟩ : ∃ S, S = textV (topL r) := ⟨_, rfl⟩
  obtain ⟨T, hT⟩ : ∃ T, T = textV (botL r) := ⟨_, rfl⟩
  have PS := Lib.hid hS
  have PT := Lib.hid hT
  rw [← hS] at hz1 HTX
  rw [← hT] at hz2 HTX
  clear hs hd hS hT
  have HR := Lib.hid hr
  have HN1 := Lib.hid (form_val hr).1
  have BR := Lib.hid (fitR_iff.mp hr)
  clear hr
  obtain ⟨vp, vq, rfl, h1, h2⟩ := hv
  obtain ⟨A1, c1, rfl, h1'⟩ := in_open h1
  obtain ⟨A2, c2, rfl, h2'⟩ := in_open h2
  have H1 := Lib.hid h1'
  have H2 := Lib.hid h2'
  have HV := Lib.hid (show InR w (.agg #[.bool (negR r), .slice A1 (topL r).length c1, .slice A2 (botL r).length c2]) (negR r) (topL r) (botL r) from ⟨_, _, rfl, h1', h2'⟩)
  have HCA := Lib.hid (Cel.new w (.bool (negR r)) (.slice A1 (topL r).length c1) (.slice A2 (botL r).length c2) 25)
  have hb0 : ∀ o1, Below w.heap.size w (w.alloc o1) := fun _ => below_alloc _ _
  have hz0 : ∀ o1, (w.alloc o1).heap.size = w.heap.size + 1 := fun _ => by simp
  have HB0 := Lib.hid hb0
  have HZ0 := Lib.hid hz0
  clear h1 h2 h1' h2' hb0 hz0
  go_enter Tryd.func18, Tryd.ntmps18
  go_wp2_with fail
  refine (ref_Valid3 _ _ _ _ _ (HV.out.on (HB0.out _ ))).mono ?_
  rw [HN1.out]
  rintro e w1 ⟨rfl, hb⟩
  have HZ1 : w.heap.size + 1 ≤ w1.heap.size := by have := hb.size; rw [HZ0.out] at this; exact this
  have HB1 : Hid (Below w.heap.size w w1) := (HB0.out _ ).trans (hb.mono (by rw [HZ0.out]; omega))
  have HCA1 := Lib.hid (HCA.out.on hb)
  clear hb
  obtain ⟨⟨a0, a1, a2⟩, -⟩ : Cel w1 w.heap.size (.bool (negR r)) (.slice A1 (topL r).length c1) (.slice A2 (botL r).length c2) := HCA1.out
  go_wp2_with fail
  refine (ref_Text (topL r) _ w1 (H1.out.on HB1.out)).mono ?_
  rw [HO1.out, ← PS.out]
  rintro e w2 ⟨rfl, hww⟩
  have HZ2 : w.heap.size + 1 ≤ w2.heap.size := by rw [← hww]; exact HZ1
  have HB2 : Hid (Below w.heap.size w w2) := by rw [← hww]; exact HB1.out
  have HCA2 : Hid (Cel w2 w.heap.size (.bool (negR r)) (.slice A1 (topL r).length c1) (.slice A2 (botL r).length c2)) := by rw [← hww]; exact HCA1.out
  clear hww a0 a1 a2
  obtain ⟨⟨a0, a1, a2⟩, -⟩ : Cel w2 w.heap.size (.bool (negR r)) (.slice A1 (topL r).length c1) (.slice A2 (botL r).length c2) := HCA2.out
  rw [HS.out] at a0
  go_wp2_with fail
  refine (limbs_in (botL r) [1] _ _ _ ((H2.out.on HB2.out).alloc _) (in_one _ _ 1)).mono ?_
  rw [HD.out]
  rintro e w3 ⟨rfl, hb⟩
  have hb3 := (below_alloc w2 (.cells #[.int .i64 1] 3)).trans (hb.mono (by simp))
  have HZ3 : w.heap.size + 1 ≤ w3.heap.size := by have := hb3.size; omega
  have HB3 : Hid (Below w.heap.size w w3) := HB2.out.trans (hb3.mono (by omega))
  have HCA3 := Lib.hid (HCA2.out.on hb3)
  clear hb3
  clear hb a0 a1 a2
  obtain ⟨⟨a0, a1, a2⟩, -⟩ : Cel w3 w.heap.size (.bool (negR r)) (.slice A1 (topL r).length c1) (.slice A2 (botL r).length c2) := HCA3.out
  go_wp2_with fail
  refine (ref_Text (botL r) _ w3 (H2.out.on HB3.out)).mono ?_
  rw [HO2.out, ← PT.out]
  rintro e w4 ⟨rfl, hww⟩
  have HB4 : Hid (Below w.heap.size w w4) := by rw [← hww]; exact HB3.out
  clear hww a0 a1 a2
  go_wp2_with fail
  go_ret2
  rw [HF.out.1, HF.out.2, ← HTX.out]
  exact ⟨by try rw [← ByteArray.append_assoc]; rfl, HB4.out⟩

set_option maxHeartbeats 1600000 in
theorem ref_Text3_tf (r : Rat) (hr : fitR r = true) (v : Value) (w : World) (hv : IsR w v r) (hs : negR r = true) (hd : r.den = 1) :
    Calls Tryd.prog 18 #[v] w (fun e w' => e = .returned (.tuple #[.string (txtW (negR r) (topL r) (botL r)), .int .i64 (opH noE (negR r) (topL r) (botL r))]) ∧ Below w.heap.size w w') := by
  have HF : Hid (txtW (negR r) (topL r) (botL r) = txtS r ∧ opH noE (negR r) (topL r) (botL r) = 0) := ⟨txtW_form hr, (opH_form (f := negOp) hr).1⟩
  have HTX := Lib.hid (txt_tf hr hs hd)
  have HS := Lib.hid hs
  have HD : Hid (decide (botL r = [1]) = true) := by rw [Hid, bot_one]; exact decide_eq_true hd
  have HO1 : Hid (oneE (topL r) = 0) := oneE_limbs (fitR_iff.mp hr).1
  have HO2 : Hid (oneE (botL r) = 0) := oneE_limbs (fitR_iff.mp hr).2
  have hz1 : (textV (topL r)).size ≤ 432 := text_short (fitR_iff.mp hr).1
  have hz2 : (textV (botL r)).size ≤ 432 := text_short (fitR_iff.mp hr).2
  obtain ⟨S, hS⟩ : ∃ S, S = textV (topL r) := ⟨_, rfl⟩
  obtain ⟨T, hT⟩ : ∃ T, T = textV (botL r) := ⟨_, rfl⟩
  have PS := Lib.hid hS
  have PT := Lib.hid hT
  rw [← hS] at hz1 HTX
  rw [← hT] at hz2
  clear hs hd hS hT
  have HR := Lib.hid hr
  have HN1 := Lib.hid (form_val hr).1
  have BR := Lib.hid (fitR_iff.mp hr)
  clear hr
  obtain ⟨vp, vq, rfl, h1, h2⟩ := hv
  obtain ⟨A1, c1, rfl, h1'⟩ := in_open h1
  obtain ⟨A2, c2, rfl, h2'⟩ := in_open h2
  have H1 := Lib.hid h1'
  have H2 := Lib.hid h2'
  have HV := Lib.hid (show InR w (.agg #[.bool (negR r), .slice A1 (topL r).length c1, .slice A2 (botL r).length c2]) (negR r) (topL r) (botL r) from ⟨_, _, rfl, h1', h2'⟩)
  have HCA := Lib.hid (Cel.new w (.bool (negR r)) (.slice A1 (topL r).length c1) (.slice A2 (botL r).length c2) 25)
  have hb0 : ∀ o1, Below w.heap.size w (w.alloc o1) := fun _ => below_alloc _ _
  have hz0 : ∀ o1, (w.alloc o1).heap.size = w.heap.size + 1 := fun _ => by simp
  have HB0 := Lib.hid hb0
  have HZ0 := Lib.hid hz0
  clear h1 h2 h1' h2' hb0 hz0
  go_enter Tryd.func18, Tryd.ntmps18
  go_wp2_with fail
  refine (ref_Valid3 _ _ _ _ _ (HV.out.on (HB0.out _ ))).mono ?_
  rw [HN1.out]
  rintro e w1 ⟨rfl, hb⟩
  have HZ1 : w.heap.size + 1 ≤ w1.heap.size := by have := hb.size; rw [HZ0.out] at this; exact this
  have HB1 : Hid (Below w.heap.size w w1) := (HB0.out _ ).trans (hb.mono (by rw [HZ0.out]; omega))
  have HCA1 := Lib.hid (HCA.out.on hb)
  clear hb
  obtain ⟨⟨a0, a1, a2⟩, -⟩ : Cel w1 w.heap.size (.bool (negR r)) (.slice A1 (topL r).length c1) (.slice A2 (botL r).length c2) := HCA1.out
  go_wp2_with fail
  refine (ref_Text (topL r) _ w1 (H1.out.on HB1.out)).mono ?_
  rw [HO1.out, ← PS.out]
  rintro e w2 ⟨rfl, hww⟩
  have HZ2 : w.heap.size + 1 ≤ w2.heap.size := by rw [← hww]; exact HZ1
  have HB2 : Hid (Below w.heap.size w w2) := by rw [← hww]; exact HB1.out
  have HCA2 : Hid (Cel w2 w.heap.size (.bool (negR r)) (.slice A1 (topL r).length c1) (.slice A2 (botL r).length c2)) := by rw [← hww]; exact HCA1.out
  clear hww a0 a1 a2
  obtain ⟨⟨a0, a1, a2⟩, -⟩ : Cel w2 w.heap.size (.bool (negR r)) (.slice A1 (topL r).length c1) (.slice A2 (botL r).length c2) := HCA2.out
  rw [HS.out] at a0
  go_wp2_with fail
  refine (limbs_in (botL r) [1] _ _ _ ((H2.out.on HB2.out).alloc _) (in_one _ _ 1)).mono ?_
  rw [HD.out]
  rintro e w3 ⟨rfl, hb⟩
  have hb3 := (below_alloc w2 (.cells #[.int .i64 1] 3)).trans (hb.mono (by simp))
  have HZ3 : w.heap.size + 1 ≤ w3.heap.size := by have := hb3.size; omega
  have HB3 : Hid (Below w.heap.size w w3) := HB2.out.trans (hb3.mono (by omega))
  have HCA3 := Lib.hid (HCA2.out.on hb3)
  clear hb3
  clear hb a0 a1 a2
  go_wp2_with fail
  go_ret2
  rw [HF.out.1, HF.out.2, ← HTX.out]
  exact ⟨rfl, HB3.out⟩

set_option maxHeartbeats 1600000 in
theorem ref_Text3_tt (r : Rat) (hr : fitR r = true) (v : Value) (w : World) (hv : IsR w v r) (hs : negR r = true) (hd : r.den ≠ 1) :
    Calls Tryd.prog 18 #[v] w (fun e w' => e = .returned (.tuple #[.string (txtW (negR r) (topL r) (botL r)), .int .i64 (opH noE (negR r) (topL r) (botL r))]) ∧ Below w.heap.size w w') := by
  have HF : Hid (txtW (negR r) (topL r) (botL r) = txtS r ∧ opH noE (negR r) (topL r) (botL r) = 0) := ⟨txtW_form hr, (opH_form (f := negOp) hr).1⟩
  have HTX := Lib.hid (txt_tt hr hs hd)
  have HS := Lib.hid hs
  have HD : Hid (decide (botL r = [1]) = false) := by rw [Hid, bot_one]; exact decide_eq_false hd
  have HO1 : Hid (oneE (topL r) = 0) := oneE_limbs (fitR_iff.mp hr).1
  have HO2 : Hid (oneE (botL r) = 0) := oneE_limbs (fitR_iff.mp hr).2
  have hz1 : (textV (topL r)).size ≤ 432 := text_short (fitR_iff.mp hr).1
  have hz2 : (textV (botL r)).size ≤ 432 := text_short (fitR_iff.mp hr).2
  obtain ⟨S, hS⟩ : ∃ S, S = textV (topL r) := ⟨_, rfl⟩
  obtain ⟨T, hT⟩ : ∃ T, T = textV (botL r) := ⟨_, rfl⟩
  have PS := Lib.hid hS
  have PT := Lib.hid hT
  rw [← hS] at hz1 HTX
  rw [← hT] at hz2 HTX
  clear hs hd hS hT
  have HR := Lib.hid hr
  have HN1 := Lib.hid (form_val hr).1
  have BR := Lib.hid (fitR_iff.mp hr)
  clear hr
  obtain ⟨vp, vq, rfl, h1, h2⟩ := hv
  obtain ⟨A1, c1, rfl, h1'⟩ := in_open h1
  obtain ⟨A2, c2, rfl, h2'⟩ := in_open h2
  have H1 := Lib.hid h1'
  have H2 := Lib.hid h2'
  have HV := Lib.hid (show InR w (.agg #[.bool (negR r), .slice A1 (topL r).length c1, .slice A2 (botL r).length c2]) (negR r) (topL r) (botL r) from ⟨_, _, rfl, h1', h2'⟩)
  have HCA := Lib.hid (Cel.new w (.bool (negR r)) (.slice A1 (topL r).length c1) (.slice A2 (botL r).length c2) 25)
  have hb0 : ∀ o1, Below w.heap.size w (w.alloc o1) := fun _ => below_alloc _ _
  have hz0 : ∀ o1, (w.alloc o1).heap.size = w.heap.size + 1 := fun _ => by simp
  have HB0 := Lib.hid hb0
  have HZ0 := Lib.hid hz0
  clear h1 h2 h1' h2' hb0 hz0
  go_enter Tryd.func18, Tryd.ntmps18
  go_wp2_with fail
  refine (ref_Valid3 _ _ _ _ _ (HV.out.on (HB0.out _ ))).mono ?_
  rw [HN1.out]
  rintro e w1 ⟨rfl, hb⟩
  have HZ1 : w.heap.size + 1 ≤ w1.heap.size := by have := hb.size; rw [HZ0.out] at this; exact this
  have HB1 : Hid (Below w.heap.size w w1) := (HB0.out _ ).trans (hb.mono (by rw [HZ0.out]; omega))
  have HCA1 := Lib.hid (HCA.out.on hb)
  clear hb
  obtain ⟨⟨a0, a1, a2⟩, -⟩ : Cel w1 w.heap.size (.bool (negR r)) (.slice A1 (topL r).length c1) (.slice A2 (botL r).length c2) := HCA1.out
  go_wp2_with fail
  refine (ref_Text (topL r) _ w1 (H1.out.on HB1.out)).mono ?_
  rw [HO1.out, ← PS.out]
  rintro e w2 ⟨rfl, hww⟩
  have HZ2 : w.heap.size + 1 ≤ w2.heap.size := by rw [← hww]; exact HZ1
  have HB2 : Hid (Below w.heap.size w w2) := by rw [← hww]; exact HB1.out
  have HCA2 : Hid (Cel w2 w.heap.size (.bool (negR r)) (.slice A1 (topL r).length c1) (.slice A2 (botL r).length c2)) := by rw [← hww]; exact HCA1.out
  clear hww a0 a1 a2
  obtain ⟨⟨a0, a1, a2⟩, -⟩ : Cel w2 w.heap.size (.bool (negR r)) (.slice A1 (topL r).length c1) (.slice A2 (botL r).length c2) := HCA2.out
  rw [HS.out] at a0
  go_wp2_with fail
  refine (limbs_in (botL r) [1] _ _ _ ((H2.out.on HB2.out).alloc _) (in_one _ _ 1)).mono ?_
  rw [HD.out]
  rintro e w3 ⟨rfl, hb⟩
  have hb3 := (below_alloc w2 (.cells #[.int .i64 1] 3)).trans (hb.mono (by simp))
  have HZ3 : w.heap.size + 1 ≤ w3.heap.size := by have := hb3.size; omega
  have HB3 : Hid (Below w.heap.size w w3) := HB2.out.trans (hb3.mono (by omega))
  have HCA3 := Lib.hid (HCA2.out.on hb3)
  clear hb3
  clear hb a0 a1 a2
  obtain ⟨⟨a0, a1, a2⟩, -⟩ : Cel w3 w.heap.size (.bool (negR r)) (.slice A1 (topL r).length c1) (.slice A2 (botL r).length c2) := HCA3.out
  go_wp2_with fail
  refine (ref_Text (botL r) _ w3 (H2.out.on HB3.out)).mono ?_
  rw [HO2.out, ← PT.out]
  rintro e w4 ⟨rfl, hww⟩
  have HB4 : Hid (Below w.heap.size w w4) := by rw [← hww]; exact HB3.out
  clear hww a0 a1 a2
  go_wp2_with fail
  go_ret2
  rw [HF.out.1, HF.out.2, ← HTX.out]
  exact ⟨by try rw [← ByteArray.append_assoc]; rfl, HB4.out⟩

theorem ref_Text3 (b : Bool) (xs ys : List Int) (v : Value) (w : World) (hv : InR w v b xs ys) :
    Calls Tryd.prog 18 #[v] w (fun e w' => e = .returned (.tuple #[.string (txtW b xs ys), .int .i64 (opH noE b xs ys)]) ∧ Below w.heap.size w w') := by
  rcases bcase (valR b xs ys) with h | h
  · obtain ⟨r, hr, rfl, rfl, rfl⟩ := val_form h
    rcases bcase (negR r) with hs | hs
    · by_cases hd : r.den = 1
      · exact ref_Text3_tf r hr v w hv hs hd
      · exact ref_Text3_tt r hr v w hv hs hd
    · by_cases hd : r.den = 1
      · exact ref_Text3_ff r hr v w hv hs hd
      · exact ref_Text3_ft r hr v w hv hs hd
  · exact ref_Text3_no b xs ys v w hv h

end Go.Proofs.YthkhaipbdphpeaaDoor
/- Lists of rational numbers in memory; their sums. The contract of rat.Sum. -/
namespace Go.Proofs.YthkhaipbdphpeaaDoor
open Go.ChangeShapes Go.WideShapes Go.RowKit
set_option linter.unusedVariables false
set_option maxRecDepth 100000

/-- A sign and two lists of limbs. -/
abbrev Trip := Bool × List Int × List Int
def vT (t : Trip) : Bool := valR t.1 t.2.1 t.2.2
def rT (t : Trip) : Rat := ratV t.1 t.2.1 t.2.2
/-- At the address lie the numbers L. -/
def Rats (w : World) (A : Option Addr) (L : List Trip) : Prop :=
  ∀ (k : Nat) (t : Trip), L[k]? = some t → ∃ b off A1 c1 A2 c2, A = some ⟨b, off, none⟩ ∧ b < w.heap.size ∧
    (w.cell? ⟨b, off + k * 3, none⟩ = some (.bool t.1) ∧ w.cell? ⟨b, off + k * 3 + 1, none⟩ = some (.slice A1 t.2.1.length c1) ∧ w.cell? ⟨b, off + k * 3 + 2, none⟩ = some (.slice A2 t.2.2.length c2)) ∧
    In w (.slice A1 t.2.1.length c1) t.2.1 ∧ In w (.slice A2 t.2.2.length c2) t.2.2
theorem Rats.on {w w' : World} {A : Option Addr} {L : List Trip} (h : Rats w A L) (hb : Below w.heap.size w w') : Rats w' A L := by
  intro k t hk
  obtain ⟨b, off, A1, c1, A2, c2, e, hlt, ⟨h0, h1, h2⟩, i1, i2⟩ := h k t hk
  exact ⟨b, off, A1, c1, A2, c2, e, Nat.lt_of_lt_of_le hlt hb.size, ⟨(hb.cell (p := ⟨b, off + k * 3, none⟩) hlt).trans h0, (hb.cell (p := ⟨b, off + k * 3 + 1, none⟩) hlt).trans h1, (hb.cell (p := ⟨b, off + k * 3 + 2, none⟩) hlt).trans h2⟩, i1.on hb, i2.on hb⟩

/-- The sum from s on, element by element; none where an addition does not fit. -/
def tot : List Rat → Rat → Option Rat
  | [], s => some s
  | a :: l, s => if sumOk s a then tot l (s + a) else none
def sumE (L : List Trip) : Int := if 4096 < L.length then 8 else if L.all vT then (if (tot (L.map rT) 0).isSome then 0 else 2) else 3
def sumV (L : List Trip) : Rat := (tot (L.map rT) 0).getD 0
theorem sumE_full {L : List Trip} (h : 4096 < L.length) : sumE L = 8 := if_pos h
theorem sumE_form {L : List Trip} (h : ¬ 4096 < L.length) (h2 : L.all vT = false) : sumE L = 3 := by unfold sumE; rw [if_neg h, h2]; rfl
theorem sumE_over {L : List Trip} (h : ¬ 4096 < L.length) (h2 : L.all vT = true) (h3 : tot (L.map rT) 0 = none) : sumE L = 2 := by unfold sumE; rw [if_neg h, h2, h3]; rfl
theorem sumE_ok {L : List Trip} {r : Rat} (h : ¬ 4096 < L.length) (h2 : L.all vT = true) (h3 : tot (L.map rT) 0 = some r) : sumE L = 0 ∧ sumV L = r := by unfold sumE sumV; rw [if_neg h, h2, h3]; exact ⟨rfl, rfl⟩
theorem all_false {L : List Trip} {k : Nat} {t : Trip} (h : L[k]? = some t) (hv : vT t = false) : L.all vT = false := by
  rw [List.all_eq_false]; exact ⟨t, List.mem_of_getElem? h, by simpa using hv⟩
theorem all_true {L : List Trip} (h : ∀ (k : Nat) (t : Trip), L[k]? = some t → vT t = true) : L.all vT = true := by
  rw [List.all_eq_true]
  intro t ht
  obtain ⟨k, hk⟩ := List.mem_iff_getElem?.mp ht
  exact h k t hk
theorem all_at {L : List Trip} (h : L.all vT = true) {k : Nat} {t : Trip} (hk : L[k]? = some t) : vT t = true := by
  rw [List.all_eq_true] at h; exact h t (List.mem_of_getElem? hk)
theorem tot_step {L : List Trip} {k : Nat} {t : Trip} {s : Rat} (hk : L[k]? = some t) : tot ((L.drop k).map rT) s = if sumOk s (rT t) then tot ((L.drop (k + 1)).map rT) (s + rT t) else none := by
  have hlt : k < L.length := by
    rcases Nat.lt_or_ge k L.length with h | h
    · exact h
    · rw [List.getElem?_eq_none h] at hk; cases hk
  have e : L[k] = t := by rw [List.getElem?_eq_getElem hlt] at hk; exact Option.some.inj hk
  rw [List.drop_eq_getElem_cons hlt, e]; rfl
theorem tot_end {L : List Trip} {s : Rat} : tot ((L.drop L.length).map rT) s = some s := by rw [List.drop_length]; rfl
theorem fit_sum {r s : Rat} (hr : fitR r = true) (hs : fitR s = true) (h : sumOk r s = true) : fitR (r + s) = true := by
  rw [sumOk_eq, Bool.and_eq_true, Bool.and_eq_true] at h
  obtain ⟨h1, h2, h3⟩ := h
  rw [← add_form]
  exact mk_fit (sMag_lt (prOk_parts h1).1 (prOk_parts h1).2 h3) (of_decide_eq_true h2) (Nat.mul_ne_zero r.den_nz s.den_nz)
theorem fit_zero : fitR 0 = true := by rw [fitR_iff]; exact ⟨big48_pos, small48 (by decide)⟩
theorem mkV_zero : mkV 0 1 = 0 := by decide +kernel
theorem mkE_zero : mkE 0 1 = 0 := by decide
/-- A valid number is the form of its value. -/
theorem trip_form {t : Trip} (h : vT t = true) : fitR (rT t) = true ∧ t.1 = negR (rT t) ∧ t.2.1 = topL (rT t) ∧ t.2.2 = botL (rT t) := by
  obtain ⟨b, xs, ys⟩ := t
  obtain ⟨r, hr, h1, h2, h3⟩ := val_form h
  have e : rT (b, xs, ys) = r := by unfold rT; rw [h1, h2, h3]; exact (form_val hr).2
  rw [e]; exact ⟨hr, h1, h2, h3⟩
theorem trip_is {w : World} {v : Value} {t : Trip} (h : vT t = true) (hi : InR w v t.1 t.2.1 t.2.2) : IsR w v (rT t) := by
  obtain ⟨_, h1, h2, h3⟩ := trip_form h
  unfold IsR; rw [← h1, ← h2, ← h3]; exact hi

/-- What holds at the head of the loop that adds. -/
def SumInv (w wr : World) (g gs : Nat) (r : Rat) : Prop :=
  (Below w.heap.size w wr ∧ w.heap.size ≤ gs ∧ g ≠ gs) ∧ Cel wr g (.bool false) (.slice none 0 0) (.slice none 0 0) ∧
  ∃ b A1 n1 d1 A2 n2 d2, Cel wr gs (.bool b) (.slice A1 n1 d1) (.slice A2 n2 d2) ∧ IsR wr (.agg #[.bool b, .slice A1 n1 d1, .slice A2 n2 d2]) r
theorem OutR.zero {w : World} {v : Value} {err : Int} {r : Rat} (h : err = 0) (ho : OutR w v err r) : IsR w v r := by unfold OutR at ho; rw [if_pos h] at ho; exact ho

set_option maxHeartbeats 3200000 in
theorem rat_Sum (L : List Trip) (A : Option Addr) (c : Nat) (w : World) (ha : Rats w A L) (hm : L.length ≤ 9223372036854775807) :
    Calls Tryd.prog 37 #[.slice A L.length c] w (RRes w (sumE L) (sumV L)) := by
  have HA := Lib.hid ha
  have HC := Lib.hid (Cel.new w (.bool false) (.slice none 0 0) (.slice none 0 0) 25)
  clear ha
  by_cases hf : 4096 < L.length
  · have hf' : (4096 : Int) < (L.length : Int) := by omega
    have HF := Lib.hid (sumE_full hf)
    clear hf
    go_enter Tryd.func37, Tryd.ntmps37
    go_wp2_with fail
    refine bodyPost_ret (v := .tuple #[.agg #[.bool false, .slice none 0 0, .slice none 0 0], .int .i64 8]) (by simp [results, Tryd.results37, go_sem]) rfl ?_
    rw [HF.out]
    exact ⟨_, rfl, OutR.no (by decide), below_alloc _ _⟩
  · have hf' : decide ((4096 : Int) < (L.length : Int)) = false := decide_eq_false (by omega)
    have hf2 : decide (4096 < L.length) = false := decide_eq_false (by omega)
    have HF := Lib.hid hf
    clear hf
    go_enter Tryd.func37, Tryd.ntmps37
    go_wp2_with fail
    obtain ⟨w0, hw0⟩ : ∃ w0, w0 = w.alloc (.cells #[.bool false, .slice none 0 0, .slice none 0 0] 25) := ⟨_, rfl⟩
    rw [← hw0] at HC ⊢
    have hz0 : w.heap.size + 1 ≤ w0.heap.size := by rw [hw0]; simp
    have HB0 : Hid (Below w.heap.size w w0) := by rw [hw0]; exact below_alloc _ _
    clear hw0
    go_loopw [16] (fun i wr => ∃ k : Nat, k ≤ L.length ∧ i = .int .i64 k ∧ (∀ j t, j < k → L[j]? = some t → vT t = true) ∧ Below w0.heap.size w0 wr) (fun i _ => L.length - (intOf i).toNat)
    case atStart => exact ⟨0, Nat.zero_le _, rfl, fun j t h => absurd h (by omega), Below.refl _ _⟩
    case round =>
      obtain ⟨k, hk, rfl, hv, hbel⟩ := hrel
      have HV := Lib.hid hv
      have HB := Lib.hid hbel
      have hzr : w0.heap.size ≤ wr.heap.size := hbel.size
      have HBW : Hid (Below w.heap.size w wr) := HB0.out.trans (hbel.mono (by omega))
      have HCR := Lib.hid (HC.out.on hbel)
      clear hv hbel
      rcases Nat.lt_or_ge k L.length with hlt | hge
      · obtain ⟨t, ht⟩ : ∃ t, L[k]? = some t := ⟨_, List.getElem?_eq_getElem hlt⟩
        obtain ⟨b, off, A1, c1, A2, c2, rfl, hbl, ⟨k0, k1, k2⟩, i1, i2⟩ := HA.out.on HBW.out k t ht
        have HT := Lib.hid ht
        have HI := Lib.hid (show InR wr (.agg #[.bool t.1, .slice A1 t.2.1.length c1, .slice A2 t.2.2.length c2]) t.1 t.2.1 t.2.2 from ⟨_, _, rfl, i1, i2⟩)
        clear ht i1 i2
        go_wp2_with fail
        refine (rat_Valid _ t.1 t.2.1 t.2.2 _ (HI.out.on (below_alloc _ _))).mono ?_
        rintro e w1 ⟨rfl, hb1⟩
        have hbw1 := (below_alloc wr (.cells #[.bool t.1, .slice A1 t.2.1.length c1, .slice A2 t.2.2.length c2] 25)).trans (hb1.mono (by simp))
        have HB1 := Lib.hid hbw1
        have hz1 : wr.heap.size ≤ w1.heap.size := hbw1.size
        have HC1 := Lib.hid (HCR.out.on hbw1)
        clear hb1 hbw1
        cases hvt : valR t.1 t.2.1 t.2.2 with
        | false =>
          have HE := Lib.hid (sumE_form HF.out (all_false HT.out hvt))
          obtain ⟨⟨r0, r1, r2⟩, s0, s1, s2⟩ := HC1.out
          clear hvt k0 k1 k2
          go_wp2_with fail
          obtain ⟨⟨z0, z1, z2⟩, -⟩ := HC1.out.put3 (.bool false) (.slice none 0 0) (.slice none 0 0)
          simp only [put3] at z0 z1 z2
          refine bodyPost_ret (v := .tuple #[.agg #[.bool false, .slice none 0 0, .slice none 0 0], .int .i64 3]) (by simp [results, Tryd.results37, go_sem, z0, z1, z2]) rfl ?_
          rw [HE.out]
          exact ⟨_, rfl, OutR.no (by decide), below_put3 (HBW.out.trans (HB1.out.mono (by omega))) (g := w.heap.size) (by omega) _ _ _⟩
        | true =>
          have HVT := Lib.hid hvt
          clear hvt k0 k1 k2
          go_wp2_with fail
          go_roundw
          case rel =>
            refine ⟨k + 1, by omega, by go_num, ?_, bstep HB.out HB1.out⟩
            intro j u hj hu
            rcases Nat.lt_or_eq_of_le (Nat.le_of_lt_succ hj) with h | h
            · exact HV.out j u h hu
            · subst h
              have e := HT.out
              rw [hu] at e; cases e; exact HVT.out
          case measure => simp [intOf]; omega
      · obtain rfl : k = L.length := by omega
        have HALL := Lib.hid (all_true (L := L) fun j u hu => HV.out j u (by rcases Nat.lt_or_ge j L.length with h | h; exact h; rw [List.getElem?_eq_none h] at hu; cases hu) hu)
        go_wp2_with fail
        refine (rat_Of 0 _ (by decide) (by decide)).mono ?_
        rw [mkE_zero, mkV_zero]
        rintro e w1 h1
        obtain ⟨b1, A1, n1, d1, A2, n2, d2, rfl, ho, hb1⟩ := h1.open_
        have HC1 := Lib.hid (HCR.out.on hb1)
        have hz1 : wr.heap.size ≤ w1.heap.size := hb1.size
        have HB1 : Hid (Below w.heap.size w w1) := HBW.out.trans (hb1.mono (by omega))
        have HO := Lib.hid ho
        clear h1 ho hb1
        go_wp2_with fail
        obtain ⟨w3, hw3⟩ : ∃ w3, w3 = w1.alloc (.cells #[.bool b1, .slice A1 n1 d1, .slice A2 n2 d2] 25) := ⟨_, rfl⟩
        rw [← hw3]
        have HI3 : Hid (SumInv w w3 w.heap.size w1.heap.size 0) := by
          rw [hw3]
          exact ⟨⟨HB1.out.alloc (by omega) _, by omega, by omega⟩, HC1.out.alloc _, b1, A1, n1, d1, A2, n2, d2, Cel.new _ _ _ _ _, (OutR.zero rfl HO.out).on (below_alloc _ _)⟩
        obtain ⟨gs, hgs⟩ : ∃ gs, gs = w1.heap.size := ⟨_, rfl⟩
        rw [← hgs] at HI3 ⊢
        clear hw3 hgs hz1 hzr
        obtain ⟨wo, rfl⟩ : ∃ wo : World, wo = wr := ⟨_, rfl⟩
        go_loopw [31] (fun i wr => ∃ (k : Nat) (r : Rat), k ≤ L.length ∧ i = .int .i64 k ∧ (fitR r = true ∧ tot ((L.drop k).map rT) r = tot (L.map rT) 0) ∧ SumInv w wr w.heap.size gs r) (fun i _ => L.length - (intOf i).toNat)
        case atStart => exact ⟨0, 0, Nat.zero_le _, rfl, ⟨fit_zero, rfl⟩, HI3.out⟩
        case round =>
          obtain ⟨k, r, hk, rfl, ⟨hfr, htot⟩, ⟨hbx, hg1, hg2⟩, hcx, b2, A3, n3, d3, A4, n4, d4, hcs, his⟩ := hrel
          have HFR := Lib.hid hfr
          have HTOT := Lib.hid htot
          have HBX := Lib.hid hbx
          have HCX := Lib.hid hcx
          have HCS := Lib.hid hcs
          have HIS := Lib.hid his
          have hgl : gs < wr.heap.size := hcs.lt
          have hwl : w.heap.size < wr.heap.size := hcx.lt
          obtain ⟨⟨s0, s1, s2⟩, -⟩ := hcs
          clear hfr htot hbx hcx his
          rcases Nat.lt_or_ge k L.length with hlt | hge
          · obtain ⟨t, ht⟩ : ∃ t, L[k]? = some t := ⟨_, List.getElem?_eq_getElem hlt⟩
            obtain ⟨b, off, A5, c5, A6, c6, rfl, hbl, ⟨k0, k1, k2⟩, i1, i2⟩ := HA.out.on HBX.out k t ht
            have HVT := Lib.hid (all_at HALL.out ht)
            have HST := Lib.hid (tot_step (s := r) ht)
            have HI := Lib.hid (show InR wr (.agg #[.bool t.1, .slice A5 t.2.1.length c5, .slice A6 t.2.2.length c6]) t.1 t.2.1 t.2.2 from ⟨_, _, rfl, i1, i2⟩)
            have hbax := below_alloc wr (.cells #[.bool t.1, .slice A5 t.2.1.length c5, .slice A6 t.2.2.length c6] 25)
            have HBA := Lib.hid hbax
            have hza : wr.heap.size ≤ (wr.alloc (.cells #[.bool t.1, .slice A5 t.2.1.length c5, .slice A6 t.2.2.length c6] 25)).heap.size := hbax.size
            clear ht i1 i2 hbax
            go_wp2_with fail
            refine (rat_sum r (rT t) HFR.out (trip_form HVT.out).1 _ _ _ (HIS.out.on HBA.out) (trip_is HVT.out (HI.out.on HBA.out))).mono ?_
            rintro e w4 h4
            obtain ⟨b5, A7, n7, d7, A8, n8, d8, rfl, ho4, hb4⟩ := h4.open_
            have HO4 := Lib.hid ho4
            have hb4' := HBA.out.trans (hb4.mono hza)
            have HB4 := Lib.hid hb4'
            have HCX4 := Lib.hid (HCX.out.on hb4')
            have HCS4 := Lib.hid (HCS.out.on hb4')
            have hz4 : wr.heap.size ≤ w4.heap.size := hb4'.size
            have HX := Lib.hid (HCX4.out.put3o (g' := gs) (fun h => hg2 h.symm) (.bool b5) (.slice A7 n7 d7) (.slice A8 n8 d8))
            obtain ⟨⟨q0, q1, q2⟩, p0, p1, p2⟩ := HCS4.out
            clear h4 ho4 hb4 hb4' k0 k1 k2 s0 s1 s2 hza
            cases hok : sumOk r (rT t) with
            | false =>
              have HE := Lib.hid (sumE_over HF.out HALL.out (by rw [← HTOT.out, HST.out, hok]; rfl))
              obtain ⟨⟨r0, r1, r2⟩, f0, f1, f2⟩ := HX.out
              simp only [put3] at r0 r1 r2 f0 f1 f2
              clear hok
              unfold okE
              go_wp2_with fail
              obtain ⟨⟨z0, z1, z2⟩, -⟩ := HX.out.put3 (.bool false) (.slice none 0 0) (.slice none 0 0)
              simp only [put3] at z0 z1 z2
              refine bodyPost_ret (v := .tuple #[.agg #[.bool false, .slice none 0 0, .slice none 0 0], .int .i64 2]) (by simp [results, Tryd.results37, go_sem, z0, z1, z2]) rfl ?_
              rw [HE.out]
              exact ⟨_, rfl, OutR.no (by decide), below_put3 (below_put3 (HBX.out.trans (HB4.out.mono (by omega))) (g := gs) hg1 _ _ _) (g := w.heap.size) (Nat.le_refl _) _ _ _⟩
            | true =>
              have HOK := Lib.hid hok
              rw [hok] at HO4
              clear hok
              unfold okE
              go_wp2_with fail
              go_roundw
              case rel =>
                refine ⟨k + 1, r + rT t, by omega, by go_num, ⟨fit_sum HFR.out (trip_form HVT.out).1 HOK.out, by rw [← HTOT.out, HST.out, HOK.out]; rfl⟩, ⟨below_put3 (HBX.out.trans (HB4.out.mono (by omega))) hg1 _ _ _, hg1, hg2⟩, HX.out, b5, A7, n7, d7, A8, n8, d8, HCS4.out.put3 _ _ _, ?_⟩
                exact InR.put3 (OutR.zero rfl HO4.out) HCS4.out _ _ _
              case measure => simp [intOf]; omega
          · obtain rfl : k = L.length := by omega
            have HE := Lib.hid (sumE_ok HF.out HALL.out (by rw [← HTOT.out, tot_end]))
            obtain ⟨⟨r0, r1, r2⟩, f0, f1, f2⟩ := HCX.out
            go_wp2_with fail
            obtain ⟨⟨z0, z1, z2⟩, -⟩ := HCX.out.put3 (.bool b2) (.slice A3 n3 d3) (.slice A4 n4 d4)
            simp only [put3] at z0 z1 z2
            refine bodyPost_ret (v := .tuple #[.agg #[.bool b2, .slice A3 n3 d3, .slice A4 n4 d4], .int .i64 0]) (by simp [results, Tryd.results37, go_sem, z0, z1, z2]) rfl ?_
            rw [HE.out.1, HE.out.2]
            exact ⟨_, rfl, OutR.ok (InR.put3 HIS.out HCX.out _ _ _), below_put3 HBX.out (Nat.le_refl _) _ _ _⟩
end Go.Proofs.YthkhaipbdphpeaaDoor
/- For the frames of the laws of layer 3: the laid table; rational numbers, and slices of them, that came in. -/
namespace Go.Proofs.YthkhaipbdphpeaaDoor
open Go Go.ChangeShapes Go.WideShapes Go.RowKit Go.Joins
set_option linter.unusedVariables false
set_option maxRecDepth 100000

theorem gPow : Tryd.prog.globalNamed "internal/strconv.uint64pow10" = some 0 := by kernel_rfl
theorem tPow : (Tryd.prog.globals[0]?).map (·.type) = some 98 := by kernel_rfl
theorem powData : (Rows.laid_internal_strconv_uint64pow10 : DataW Unit) = Lib.tabData .u64 Lib.pow10Tab := by kernel_rfl

/-- The door's own heap meets the condition. -/
theorem door_met (os : Os) (args : Array Value) : laidMetH Tryd.prog Rows.ratValidsRow.laid ((World.doorLaid Tryd.prog 700 os).forCall (fun _ _ => 0) ⟨#[], args, []⟩).memory :=
  laidMetH_of_parts3 (fuel := 8) (laidMet_of_run' 8 (by kernel_rfl) (by kernel_rfl)) (by kernel_rfl) (by kernel_rfl)
theorem tab_of_laid {W : World} (h : laidMetH Tryd.prog Rows.ratValidsRow.laid W) : Tab W := by
  rw [MakeChecks.laidMetH_plain _ _ _ (by kernel_rfl)] at h
  have h3 := laidMet.tail (laidMet.tail h)
  rw [powData] at h3
  exact Lib.tabBelow_of_tabIs (Lib.tabIs_of_head gPow tPow Tryd.underlying98 Tryd.underlying82 (by kernel_rfl) (by kernel_rfl) h3)
theorem in_of {W : World} {A : Option Addr} {n c : Nat} {zs : List Int} (h : InInts .i64 W A n c zs) : In W (.slice A n c) zs := by
  obtain ⟨rfl, h2, h3, _, h5⟩ := h
  refine ⟨A, c, rfl, h2, h3, fun i z hz => ?_⟩
  obtain ⟨b, off, hA, hb, hc⟩ := h5 i z hz
  exact ⟨b, off, hA, ⟨Nat.zero_le _, Or.inl rfl⟩, hb, hc⟩

section
variable {H : Type} {enc : TypeId × Value → H} {P : Program} {w : World} {held : Bool} {t e : TypeId} {n : Nat}
/-- The limbs in a field that came in. -/
theorem in_trod {v : Value} {y : DataW H × List MemPlace} (ht : P.underlying t = some (.slice e)) (he : P.underlying e = some (.int .i64)) (hce : P.cellsOf e = 1)
    (hf : DataW.trod enc P w 0 (fun _ => true) held n t [v] = some y) : ∃ zs, In w v zs := by
  rcases open_ints ht he hce hf with ⟨hcs, _⟩ | ⟨x, l, c, zs, hcs, _, hl, hm, hz, _, hcell, hwz⟩
  · simp at hcs
    exact ⟨[], none, 0, hcs, Nat.le_refl _, by unfold maxLen; omega, fun k z hz => by simp at hz⟩
  · simp at hcs
    subst hcs
    have hz' : zs.length = c := by simpa using hz
    have hlen : (zs.take l).length = l := by rw [List.length_take]; omega
    refine ⟨zs.take l, some x, c, by rw [hlen], by omega, hm, fun i z hi => ?_⟩
    have hin : i < l := by
      rcases Nat.lt_or_ge i l with h1 | h1
      · exact h1
      · rw [List.getElem?_take, if_neg (by omega)] at hi; cases hi
    rw [List.getElem?_take, if_pos hin] at hi
    obtain ⟨b, off, rfl, hc⟩ := ints_at hcell (by omega)
    have hci := hc i (by omega)
    have ez : zs.getD i 0 = z := by rw [List.getD_eq_getElem?_getD, hi]; rfl
    rw [ez] at hci
    exact ⟨b, off, rfl, ⟨Nat.zero_le _, Or.inl rfl⟩, World.block_lt_of_cell? w _ hci, hci⟩
end

theorem list_of {α : Type} {P : Nat → α → Prop} (n : Nat) (h : ∀ i, i < n → ∃ t, P i t) : ∃ L : List α, L.length = n ∧ ∀ i t, L[i]? = some t → P i t := by
  induction n with
  | zero => exact ⟨[], rfl, fun i t hi => by simp at hi⟩
  | succ n ih =>
    obtain ⟨L, hl, hL⟩ := ih fun i hi => h i (by omega)
    obtain ⟨t, ht⟩ := h n (by omega)
    refine ⟨L ++ [t], by simp [hl], fun i u hu => ?_⟩
    rcases Nat.lt_or_ge i L.length with h1 | h1
    · rw [List.getElem?_append_left h1] at hu; exact hL i u hu
    · rw [List.getElem?_append_right h1] at hu
      have : i - L.length = 0 := by
        rcases Nat.eq_zero_or_pos (i - L.length) with h2 | h2
        · exact h2
        · rw [List.getElem?_eq_none (by simp; omega)] at hu; cases hu
      rw [this] at hu
      simp at hu
      have e : i = n := by omega
      subst hu e; exact ht

section
variable {H : Type} {enc : TypeId × Value → H} {w : World} {held : Bool}
theorem open_rat {r : Reach} {b0 : Nat} {v : Value} {d : DataW H} {p : List MemPlace} (hv : Value.okWide Tryd.prog w r b0 25 v) (h : DataW.Trod enc Tryd.prog w 0 (fun _ => true) held 25 v d p) :
    ∃ b xs ys, InR w v b xs ys := by
  obtain ⟨v0, v1, v2, y0, y1, y2, n, rfl, _, _, h0, h1, h2⟩ := open_agg3 Tryd.underlying25 (by kernel_rfl) (by kernel_rfl) hv h
  obtain ⟨b, hb, _⟩ := DataW.trod_bool Tryd.underlying4 h0
  obtain ⟨xs, hx⟩ := in_trod Tryd.underlying23 Tryd.underlying3 (by kernel_rfl) h1
  obtain ⟨ys, hy⟩ := in_trod Tryd.underlying23 Tryd.underlying3 (by kernel_rfl) h2
  simp at hb
  subst hb
  exact ⟨b, xs, ys, v1, v2, rfl, hx, hy⟩

/-- A slice of numbers that came in. -/
theorem open_rats {r : Reach} {b0 : Nat} {v : Value} {d : DataW H} {p : List MemPlace} (hv : Value.okWide Tryd.prog w r b0 41 v) (h : DataW.Trod enc Tryd.prog w 0 (fun _ => true) held 41 v d p) :
    ∃ A c L, v = .slice A (L : List Trip).length c ∧ L.length ≤ c ∧ c ≤ maxLen ∧ Rats w A L := by
  obtain ⟨A, n, c, rfl⟩ := okWide_slice Tryd.underlying41 hv
  obtain ⟨fuel, hf⟩ := h
  rcases Deep.open_slice Tryd.underlying41 hf with ⟨hcs, _⟩ | ⟨a, len, cap, m, k, D, Pl, hcs, _, hl, hm, hmm, _, hel⟩
  · simp [Value.cells] at hcs
    obtain ⟨rfl, rfl, rfl⟩ := hcs
    exact ⟨none, 0, [], rfl, Nat.le_refl _, by unfold maxLen; omega, fun k t hk => by simp at hk⟩
  · simp [Value.cells] at hcs
    obtain ⟨rfl, rfl, rfl⟩ := hcs
    have hmc : m = c := by simpa using hmm
    subst hmc
    have hC : Tryd.prog.cellsOf 25 = 3 := by kernel_rfl
    have key : ∀ i, i < n → ∃ t : Trip, ∃ b off A1 c1 A2 c2, a = ⟨b, off, none⟩ ∧ b < w.heap.size ∧
        (w.cell? ⟨b, off + i * 3, none⟩ = some (.bool t.1) ∧ w.cell? ⟨b, off + i * 3 + 1, none⟩ = some (.slice A1 t.2.1.length c1) ∧ w.cell? ⟨b, off + i * 3 + 2, none⟩ = some (.slice A2 t.2.2.length c2)) ∧
        In w (.slice A1 t.2.1.length c1) t.2.1 ∧ In w (.slice A2 t.2.2.length c2) t.2.2 := by
      intro i hi
      obtain ⟨cs, hc, ht⟩ := hel i (by omega)
      rw [hC] at hc
      obtain ⟨xs, n', _, _, hlen, hyl, hg⟩ := DataW.trod_struct Tryd.underlying25 ht
      obtain ⟨_, hcl, hat⟩ := World.cells?_some hc
      obtain ⟨c0, c1, c2, rfl⟩ : ∃ c0 c1 c2, cs = [c0, c1, c2] := by
        match cs, hcl with
        | [c0, c1, c2], _ => exact ⟨c0, c1, c2, rfl⟩
      obtain ⟨y0, y1, y2, rfl⟩ : ∃ y0 y1 y2, xs = [y0, y1, y2] := by
        match xs, hyl with
        | [y0, y1, y2], _ => exact ⟨y0, y1, y2, rfl⟩
      have g0 := hg 0 _ rfl
      have g1 := hg 1 _ rfl
      have g2 := hg 2 _ rfl
      change DataW.trod enc Tryd.prog w 0 (fun _ => true) held n' 4 (([c0, c1, c2].drop 0).take (Tryd.prog.cellsOf 4)) = some y0 at g0
      change DataW.trod enc Tryd.prog w 0 (fun _ => true) held n' 23 (([c0, c1, c2].drop 1).take (Tryd.prog.cellsOf 23)) = some y1 at g1
      change DataW.trod enc Tryd.prog w 0 (fun _ => true) held n' 23 (([c0, c1, c2].drop 2).take (Tryd.prog.cellsOf 23)) = some y2 at g2
      rw [show Tryd.prog.cellsOf 4 = 1 by kernel_rfl] at g0
      rw [show Tryd.prog.cellsOf 23 = 1 by kernel_rfl] at g1 g2
      obtain ⟨bb, hbb, _⟩ := DataW.trod_bool Tryd.underlying4 g0
      obtain ⟨xs, hx⟩ := in_trod (v := c1) Tryd.underlying23 Tryd.underlying3 (by kernel_rfl) g1
      obtain ⟨ys, hy⟩ := in_trod (v := c2) Tryd.underlying23 Tryd.underlying3 (by kernel_rfl) g2
      obtain ⟨A1, d1, rfl, hx'⟩ := in_open hx
      obtain ⟨A2, d2, rfl, hy'⟩ := in_open hy
      have hb0 : c0 = .bool bb := by simpa using hbb
      subst hb0
      obtain ⟨b, off, spot⟩ := a
      have hspot : spot = none := by
        obtain ⟨cs0, hc0, ht0⟩ := hel 0 (by omega)
        rw [hC] at hc0
        obtain ⟨_, hl0, hat0⟩ := World.cells?_some hc0
        match cs0, hl0 with
        | [z0, z1, z2], _ =>
          have h := hat0 0 (by omega)
          have e : ∀ x : Addr, x.add 0 = x := fun x => by unfold Addr.add; rw [if_pos rfl]
          rw [Nat.zero_mul, e, e] at h
          exact World.cell?_spot h
      subst hspot
      have k : ∀ j, j < 3 → w.cell? ⟨b, off + i * 3 + j, none⟩ = [Value.bool bb, .slice A1 xs.length d1, .slice A2 ys.length d2][j]? := fun j hj => by
        have := hat j (by omega)
        rw [Go.WideShapes.add_plain, Go.WideShapes.add_plain] at this
        exact this
      have k0 := k 0 (by omega)
      exact ⟨(bb, xs, ys), b, off, A1, d1, A2, d2, rfl, World.block_lt_of_cell? w _ k0, ⟨k0, k 1 (by omega), k 2 (by omega)⟩, hx', hy'⟩
    obtain ⟨L, rfl, hL⟩ := list_of n key
    refine ⟨some a, m, L, rfl, hl, hm, fun k t hk => ?_⟩
    obtain ⟨b, off, A1, c1, A2, c2, rfl, h⟩ := hL k t hk
    exact ⟨b, off, A1, c1, A2, c2, rfl, h⟩
end
end Go.Proofs.YthkhaipbdphpeaaDoor
/- The examples of the chapter: text and awake of the laws. -/
namespace Go.Proofs.YthkhaipbdphpeaaDoor
open Go.ChangeShapes Go.WideShapes Go.RowKit
set_option linter.unusedVariables false
set_option maxRecDepth 100000

theorem OutR.zero' {w : World} {v : Value} {r : Rat} (ho : OutR w v 0 r) : IsR w v r := by unfold OutR at ho; rw [if_pos rfl] at ho; exact ho
theorem rat_MakeF (p q : Int) (w : World) (h : mkE p q = 0) (h1 : -9223372036854775808 ≤ p) (h2 : p ≤ 9223372036854775807) (h3 : -9223372036854775808 ≤ q) (h4 : q ≤ 9223372036854775807) :
    Calls Tryd.prog 25 #[.int .i64 p, .int .i64 q] w (RRes w 0 (mkV p q)) := by
  have k := rat_Make p q w h1 h2 h3 h4
  rw [h] at k; exact k
theorem rat_AddF (r s : Rat) (hr : fitR r = true) (hs : fitR s = true) (ho : sumOk r s = true) (v u : Value) (w : World) (hv : IsR w v r) (hu : IsR w u s) :
    Calls Tryd.prog 27 #[v, u] w (RRes w 0 (r + s)) := by
  have h := rat_Add _ _ _ _ _ _ v u w hv hu
  rw [(op_form (ok := sumOk) (f := addOp) hr hs).1, (op_form (ok := sumOk) (f := addOp) hr hs).2, ho] at h
  exact h
theorem rat_TextF (r : Rat) (hr : fitR r = true) (v : Value) (w : World) (hv : IsR w v r) (ht : Tab w) :
    Calls Tryd.prog 17 #[v] w fun e w' => e = .returned (.tuple #[.string (txtS r), .int .i64 0]) ∧ Below w.heap.size w w' := by
  have h := rat_Text _ _ _ v w hv ht
  rw [txtW_form hr, (opH_form (f := negOp) hr).1] at h
  exact h
theorem rat_CmpF (r s : Rat) (hr : fitR r = true) (hs : fitR s = true) (v u : Value) (w : World) (hv : IsR w v r) (hu : IsR w u s) :
    Calls Tryd.prog 31 #[v, u] w fun e w' => e = .returned (.tuple #[.int .i64 (cmpG r s), .int .i64 (okE (crossOk r s))]) ∧ Below w.heap.size w w' := by
  have h := rat_Cmp _ _ _ _ _ _ v u w hv hu
  rw [cmpW_form hr hs, (op_form (ok := crossOk) (f := addOp) hr hs).1] at h
  exact h
theorem rat_FloorF (r : Rat) (hr : fitR r = true) (v : Value) (w : World) (hv : IsR w v r) :
    Calls Tryd.prog 13 #[v] w fun e w' => e = .returned (.tuple #[.int .i64 (rndV r (negR r)), .int .i64 (rndE r (negR r))]) ∧ Below w.heap.size w w' := by
  have h := rat_Floor _ _ _ v w hv
  rw [floorV, floorE, rW_form hr, rE_form hr] at h
  exact h
theorem rat_CeilF (r : Rat) (hr : fitR r = true) (v : Value) (w : World) (hv : IsR w v r) :
    Calls Tryd.prog 15 #[v] w fun e w' => e = .returned (.tuple #[.int .i64 (rndV r (!negR r)), .int .i64 (rndE r (!negR r))]) ∧ Below w.heap.size w w' := by
  have h := rat_Ceil _ _ _ v w hv
  rw [ceilV, ceilE, rW_form hr, rE_form hr] at h
  exact h

def awA : Rat := mkV 1 6
def awB : Rat := mkV 1 10
def awX : Rat := mkV (-3) 2
def awY : Rat := mkV (-4) 3
theorem fitA : fitR awA = true := by decide +kernel
theorem fitB : fitR awB = true := by decide +kernel
theorem fitAB : fitR (awA + awB) = true := by decide +kernel
theorem fitX : fitR awX = true := by decide +kernel
theorem fitY : fitR awY = true := by decide +kernel
theorem sumAB : sumOk awA awB = true := by decide +kernel
theorem cmpXY : cmpG awX awY = -1 ∧ okE (crossOk awX awY) = 0 := by decide +kernel
theorem floorX : rndV awX (negR awX) = -2 ∧ rndE awX (negR awX) = 0 := by decide +kernel
theorem ceilX : rndV awX (!negR awX) = -1 ∧ rndE awX (!negR awX) = 0 := by decide +kernel
theorem txt_1 : txtS (mkV 6 (-4)) = ⟨#[45, 51, 47, 50]⟩ := by
  have h1 : negR (mkV 6 (-4)) = true := by decide +kernel
  have h2 : (mkV 6 (-4)).num.natAbs = 3 := by decide +kernel
  have h3 : (mkV 6 (-4)).den = 2 := by decide +kernel
  unfold txtS txtL
  rw [h1, h2, h3, Lib.decDigits_one (by decide), Lib.decDigits_one (by decide)]; rfl
theorem txt_2 : txtS (mkV 0 (-7)) = ⟨#[48]⟩ := by
  have h1 : negR (mkV 0 (-7)) = false := by decide +kernel
  have h2 : (mkV 0 (-7)).num.natAbs = 0 := by decide +kernel
  have h3 : (mkV 0 (-7)).den = 1 := by decide +kernel
  unfold txtS txtL
  rw [h1, h2, h3, Lib.decDigits_one (by decide)]; rfl
theorem txt_3 : txtS (awA + awB) = ⟨#[52, 47, 49, 53]⟩ := by
  have h1 : negR (awA + awB) = false := by decide +kernel
  have h2 : (awA + awB).num.natAbs = 4 := by decide +kernel
  have h3 : (awA + awB).den = 15 := by decide +kernel
  unfold txtS txtL
  rw [h1, h2, h3, Lib.decDigits_one (by decide), Lib.decDigits_two (by decide) (by decide)]; rfl

set_option maxHeartbeats 1600000 in
theorem text_c (p q : Int) (S : ByteArray) (w : World) (ht : Tab w) (h : mkE p q = 0) (hf : fitR (mkV p q) = true) (hS : txtS (mkV p q) = S) (h1 : -9223372036854775808 ≤ p) (h2 : p ≤ 9223372036854775807) (h3 : -9223372036854775808 ≤ q) (h4 : q ≤ 9223372036854775807) :
    Calls Tryd.prog 55 #[.int .i64 p, .int .i64 q] w fun e w' => e = .returned (.string S) ∧ Below w.heap.size w w' := by
  have HT := Lib.hid ht
  have HM := Lib.hid (fun W => rat_MakeF p q W h h1 h2 h3 h4)
  have HF := Lib.hid hf
  have HS := Lib.hid hS
  have HB := Lib.hid (Below.refl w.heap.size w)
  clear ht h hf hS h1 h2 h3 h4
  go_enter Tryd.func55, Tryd.ntmps55
  go_wp2_with fail
  refine (HM.out _).mono ?_
  rintro e w1 h
  obtain ⟨zba, zAa, zna, zda, zBa, zma, zqa, rfl, ho, hb⟩ := h.open_
  replace HB : Hid (Below w.heap.size w w1) := bstep HB.out hb
  have HOa := Lib.hid ho
  clear h ho hb
  go_wp2_with fail
  obtain ⟨w2, hw⟩ : ∃ W, W = w1.alloc (.cells #[.bool zba, .slice zAa zna zda, .slice zBa zma zqa] 25) := ⟨_, rfl⟩
  have hb : Below w1.heap.size w1 w2 := by rw [hw]; exact below_alloc _ _
  obtain ⟨ga, hg⟩ : ∃ g, g = w1.heap.size := ⟨_, rfl⟩
  have hcn : Cel w2 ga (.bool zba) (.slice zAa zna zda) (.slice zBa zma zqa) := by rw [hw, hg]; exact Cel.new _ _ _ _ _
  rw [← hw]
  rw [← hg]
  replace HOa := Lib.hid (HOa.out.on hb)
  replace HB : Hid (Below w.heap.size w w2) := bstep HB.out hb
  have HCa := Lib.hid hcn
  clear hw hb hg hcn
  refine (rat_TextF (mkV p q) HF.out _ _ HOa.out.zero' (HT.out.on HB.out)).mono ?_
  rw [HS.out]
  rintro e w3 ⟨rfl, hb⟩
  replace HCa := Lib.hid (HCa.out.on hb)
  replace HOa := Lib.hid (HOa.out.on hb)
  replace HB : Hid (Below w.heap.size w w3) := bstep HB.out hb
  clear hb
  obtain ⟨⟨xa0, xa1, xa2⟩, ya0, ya1, ya2⟩ := HCa.out
  have lta := HCa.out.lt
  go_wp2_with fail
  go_ret
  exact ⟨rfl, HB.out⟩

set_option maxHeartbeats 6400000 in
theorem awake3 (w : World) (ht : Tab w) :
    Calls Tryd.prog 22 #[] w fun e w' => e = .returned (.bool true) ∧ Below w.heap.size w w' := by
  have HT := Lib.hid ht
  have HB := Lib.hid (Below.refl w.heap.size w)
  clear ht
  go_enter Tryd.func22, Tryd.ntmps22
  go_wp2_with fail
  refine (rat_MakeF 1 6 _ (by decide) (by decide) (by decide) (by decide) (by decide)).mono ?_
  rintro e w1 h
  obtain ⟨zba, zAa, zna, zda, zBa, zma, zqa, rfl, ho, hb⟩ := h.open_
  replace HB : Hid (Below w.heap.size w w1) := bstep HB.out hb
  have HOa := Lib.hid ho
  clear h ho hb
  go_wp2_with fail
  obtain ⟨w2, hw⟩ : ∃ W, W = w1.alloc (.cells #[.bool zba, .slice zAa zna zda, .slice zBa zma zqa] 25) := ⟨_, rfl⟩
  have hb : Below w1.heap.size w1 w2 := by rw [hw]; exact below_alloc _ _
  obtain ⟨ga, hg⟩ : ∃ g, g = w1.heap.size := ⟨_, rfl⟩
  have hcn : Cel w2 ga (.bool zba) (.slice zAa zna zda) (.slice zBa zma zqa) := by rw [hw, hg]; exact Cel.new _ _ _ _ _
  rw [← hw]
  rw [← hg]
  replace HOa := Lib.hid (HOa.out.on hb)
  replace HB : Hid (Below w.heap.size w w2) := bstep HB.out hb
  have HCa := Lib.hid hcn
  clear hw hb hg hcn
  refine (rat_MakeF 1 10 _ (by decide) (by decide) (by decide) (by decide) (by decide)).mono ?_
  rintro e w3 h
  obtain ⟨zbb, zAb, znb, zdb, zBb, zmb, zqb, rfl, ho, hb⟩ := h.open_
  replace HCa := Lib.hid (HCa.out.on hb)
  replace HOa := Lib.hid (HOa.out.on hb)
  replace HB : Hid (Below w.heap.size w w3) := bstep HB.out hb
  have HOb := Lib.hid ho
  clear h ho hb
  obtain ⟨⟨xa0, xa1, xa2⟩, ya0, ya1, ya2⟩ := HCa.out
  have lta := HCa.out.lt
  go_wp2_with fail
  clear xa0 xa1 xa2 ya0 ya1 ya2 lta
  obtain ⟨w4, hw⟩ : ∃ W, W = w3.alloc (.cells #[.bool zbb, .slice zAb znb zdb, .slice zBb zmb zqb] 25) := ⟨_, rfl⟩
  have hb : Below w3.heap.size w3 w4 := by rw [hw]; exact below_alloc _ _
  obtain ⟨gb, hg⟩ : ∃ g, g = w3.heap.size := ⟨_, rfl⟩
  have hcn : Cel w4 gb (.bool zbb) (.slice zAb znb zdb) (.slice zBb zmb zqb) := by rw [hw, hg]; exact Cel.new _ _ _ _ _
  rw [← hw]
  rw [← hg]
  replace HCa := Lib.hid (HCa.out.on hb)
  replace HOa := Lib.hid (HOa.out.on hb)
  replace HOb := Lib.hid (HOb.out.on hb)
  replace HB : Hid (Below w.heap.size w w4) := bstep HB.out hb
  have HCb := Lib.hid hcn
  clear hw hb hg hcn
  refine (rat_AddF awA awB fitA fitB sumAB _ _ _ HOa.out.zero' HOb.out.zero').mono ?_
  rintro e w5 h
  obtain ⟨zbc, zAc, znc, zdc, zBc, zmc, zqc, rfl, ho, hb⟩ := h.open_
  replace HCa := Lib.hid (HCa.out.on hb)
  replace HCb := Lib.hid (HCb.out.on hb)
  replace HOa := Lib.hid (HOa.out.on hb)
  replace HOb := Lib.hid (HOb.out.on hb)
  replace HB : Hid (Below w.heap.size w w5) := bstep HB.out hb
  have HOc := Lib.hid ho
  clear h ho hb
  obtain ⟨⟨xa0, xa1, xa2⟩, ya0, ya1, ya2⟩ := HCa.out
  have lta := HCa.out.lt
  obtain ⟨⟨xb0, xb1, xb2⟩, yb0, yb1, yb2⟩ := HCb.out
  have ltb := HCb.out.lt
  go_wp2_with fail
  clear xa0 xa1 xa2 ya0 ya1 ya2 lta xb0 xb1 xb2 yb0 yb1 yb2 ltb
  obtain ⟨w6, hw⟩ : ∃ W, W = w5.alloc (.cells #[.bool zbc, .slice zAc znc zdc, .slice zBc zmc zqc] 25) := ⟨_, rfl⟩
  have hb : Below w5.heap.size w5 w6 := by rw [hw]; exact below_alloc _ _
  obtain ⟨gc, hg⟩ : ∃ g, g = w5.heap.size := ⟨_, rfl⟩
  have hcn : Cel w6 gc (.bool zbc) (.slice zAc znc zdc) (.slice zBc zmc zqc) := by rw [hw, hg]; exact Cel.new _ _ _ _ _
  rw [← hw]
  rw [← hg]
  replace HCa := Lib.hid (HCa.out.on hb)
  replace HCb := Lib.hid (HCb.out.on hb)
  replace HOa := Lib.hid (HOa.out.on hb)
  replace HOb := Lib.hid (HOb.out.on hb)
  replace HOc := Lib.hid (HOc.out.on hb)
  replace HB : Hid (Below w.heap.size w w6) := bstep HB.out hb
  have HCc := Lib.hid hcn
  clear hw hb hg hcn
  refine (rat_TextF (awA + awB) fitAB _ _ HOc.out.zero' (HT.out.on HB.out)).mono ?_
  rw [txt_3]
  rintro e w7 ⟨rfl, hb⟩
  replace HCa := Lib.hid (HCa.out.on hb)
  replace HCb := Lib.hid (HCb.out.on hb)
  replace HCc := Lib.hid (HCc.out.on hb)
  replace HOa := Lib.hid (HOa.out.on hb)
  replace HOb := Lib.hid (HOb.out.on hb)
  replace HOc := Lib.hid (HOc.out.on hb)
  replace HB : Hid (Below w.heap.size w w7) := bstep HB.out hb
  clear hb
  obtain ⟨⟨xa0, xa1, xa2⟩, ya0, ya1, ya2⟩ := HCa.out
  have lta := HCa.out.lt
  obtain ⟨⟨xb0, xb1, xb2⟩, yb0, yb1, yb2⟩ := HCb.out
  have ltb := HCb.out.lt
  obtain ⟨⟨xc0, xc1, xc2⟩, yc0, yc1, yc2⟩ := HCc.out
  have ltc := HCc.out.lt
  go_wp2_with fail
  clear xa0 xa1 xa2 ya0 ya1 ya2 lta xb0 xb1 xb2 yb0 yb1 yb2 ltb xc0 xc1 xc2 yc0 yc1 yc2 ltc
  refine (rat_MakeF (-3) 2 _ (by decide) (by decide) (by decide) (by decide) (by decide)).mono ?_
  rintro e w8 h
  obtain ⟨zbx, zAx, znx, zdx, zBx, zmx, zqx, rfl, ho, hb⟩ := h.open_
  replace HCa := Lib.hid (HCa.out.on hb)
  replace HCb := Lib.hid (HCb.out.on hb)
  replace HCc := Lib.hid (HCc.out.on hb)
  replace HOa := Lib.hid (HOa.out.on hb)
  replace HOb := Lib.hid (HOb.out.on hb)
  replace HOc := Lib.hid (HOc.out.on hb)
  replace HB : Hid (Below w.heap.size w w8) := bstep HB.out hb
  have HOx := Lib.hid ho
  clear h ho hb
  obtain ⟨⟨xa0, xa1, xa2⟩, ya0, ya1, ya2⟩ := HCa.out
  have lta := HCa.out.lt
  obtain ⟨⟨xb0, xb1, xb2⟩, yb0, yb1, yb2⟩ := HCb.out
  have ltb := HCb.out.lt
  obtain ⟨⟨xc0, xc1, xc2⟩, yc0, yc1, yc2⟩ := HCc.out
  have ltc := HCc.out.lt
  go_wp2_with fail
  clear xa0 xa1 xa2 ya0 ya1 ya2 lta xb0 xb1 xb2 yb0 yb1 yb2 ltb xc0 xc1 xc2 yc0 yc1 yc2 ltc
  obtain ⟨w9, hw⟩ : ∃ W, W = w8.alloc (.cells #[.bool zbx, .slice zAx znx zdx, .slice zBx zmx zqx] 25) := ⟨_, rfl⟩
  have hb : Below w8.heap.size w8 w9 := by rw [hw]; exact below_alloc _ _
  obtain ⟨gx, hg⟩ : ∃ g, g = w8.heap.size := ⟨_, rfl⟩
  have hcn : Cel w9 gx (.bool zbx) (.slice zAx znx zdx) (.slice zBx zmx zqx) := by rw [hw, hg]; exact Cel.new _ _ _ _ _
  rw [← hw]
  rw [← hg]
  replace HCa := Lib.hid (HCa.out.on hb)
  replace HCb := Lib.hid (HCb.out.on hb)
  replace HCc := Lib.hid (HCc.out.on hb)
  replace HOa := Lib.hid (HOa.out.on hb)
  replace HOb := Lib.hid (HOb.out.on hb)
  replace HOc := Lib.hid (HOc.out.on hb)
  replace HOx := Lib.hid (HOx.out.on hb)
  replace HB : Hid (Below w.heap.size w w9) := bstep HB.out hb
  have HCx := Lib.hid hcn
  clear hw hb hg hcn
  refine (rat_MakeF (-4) 3 _ (by decide) (by decide) (by decide) (by decide) (by decide)).mono ?_
  rintro e w10 h
  obtain ⟨zby, zAy, zny, zdy, zBy, zmy, zqy, rfl, ho, hb⟩ := h.open_
  replace HCa := Lib.hid (HCa.out.on hb)
  replace HCb := Lib.hid (HCb.out.on hb)
  replace HCc := Lib.hid (HCc.out.on hb)
  replace HCx := Lib.hid (HCx.out.on hb)
  replace HOa := Lib.hid (HOa.out.on hb)
  replace HOb := Lib.hid (HOb.out.on hb)
  replace HOc := Lib.hid (HOc.out.on hb)
  replace HOx := Lib.hid (HOx.out.on hb)
  replace HB : Hid (Below w.heap.size w w10) := bstep HB.out hb
  have HOy := Lib.hid ho
  clear h ho hb
  obtain ⟨⟨xa0, xa1, xa2⟩, ya0, ya1, ya2⟩ := HCa.out
  have lta := HCa.out.lt
  obtain ⟨⟨xb0, xb1, xb2⟩, yb0, yb1, yb2⟩ := HCb.out
  have ltb := HCb.out.lt
  obtain ⟨⟨xc0, xc1, xc2⟩, yc0, yc1, yc2⟩ := HCc.out
  have ltc := HCc.out.lt
  obtain ⟨⟨xx0, xx1, xx2⟩, yx0, yx1, yx2⟩ := HCx.out
  have ltx := HCx.out.lt
  go_wp2_with fail
  clear xa0 xa1 xa2 ya0 ya1 ya2 lta xb0 xb1 xb2 yb0 yb1 yb2 ltb xc0 xc1 xc2 yc0 yc1 yc2 ltc xx0 xx1 xx2 yx0 yx1 yx2 ltx
  obtain ⟨w11, hw⟩ : ∃ W, W = w10.alloc (.cells #[.bool zby, .slice zAy zny zdy, .slice zBy zmy zqy] 25) := ⟨_, rfl⟩
  have hb : Below w10.heap.size w10 w11 := by rw [hw]; exact below_alloc _ _
  obtain ⟨gy, hg⟩ : ∃ g, g = w10.heap.size := ⟨_, rfl⟩
  have hcn : Cel w11 gy (.bool zby) (.slice zAy zny zdy) (.slice zBy zmy zqy) := by rw [hw, hg]; exact Cel.new _ _ _ _ _
  rw [← hw]
  rw [← hg]
  replace HCa := Lib.hid (HCa.out.on hb)
  replace HCb := Lib.hid (HCb.out.on hb)
  replace HCc := Lib.hid (HCc.out.on hb)
  replace HCx := Lib.hid (HCx.out.on hb)
  replace HOa := Lib.hid (HOa.out.on hb)
  replace HOb := Lib.hid (HOb.out.on hb)
  replace HOc := Lib.hid (HOc.out.on hb)
  replace HOx := Lib.hid (HOx.out.on hb)
  replace HOy := Lib.hid (HOy.out.on hb)
  replace HB : Hid (Below w.heap.size w w11) := bstep HB.out hb
  have HCy := Lib.hid hcn
  clear hw hb hg hcn
  refine (rat_CmpF awX awY fitX fitY _ _ _ HOx.out.zero' HOy.out.zero').mono ?_
  rw [cmpXY.1, cmpXY.2]
  rintro e w12 ⟨rfl, hb⟩
  replace HCa := Lib.hid (HCa.out.on hb)
  replace HCb := Lib.hid (HCb.out.on hb)
  replace HCc := Lib.hid (HCc.out.on hb)
  replace HCx := Lib.hid (HCx.out.on hb)
  replace HCy := Lib.hid (HCy.out.on hb)
  replace HOa := Lib.hid (HOa.out.on hb)
  replace HOb := Lib.hid (HOb.out.on hb)
  replace HOc := Lib.hid (HOc.out.on hb)
  replace HOx := Lib.hid (HOx.out.on hb)
  replace HOy := Lib.hid (HOy.out.on hb)
  replace HB : Hid (Below w.heap.size w w12) := bstep HB.out hb
  clear hb
  obtain ⟨⟨xa0, xa1, xa2⟩, ya0, ya1, ya2⟩ := HCa.out
  have lta := HCa.out.lt
  obtain ⟨⟨xb0, xb1, xb2⟩, yb0, yb1, yb2⟩ := HCb.out
  have ltb := HCb.out.lt
  obtain ⟨⟨xc0, xc1, xc2⟩, yc0, yc1, yc2⟩ := HCc.out
  have ltc := HCc.out.lt
  obtain ⟨⟨xx0, xx1, xx2⟩, yx0, yx1, yx2⟩ := HCx.out
  have ltx := HCx.out.lt
  obtain ⟨⟨xy0, xy1, xy2⟩, yy0, yy1, yy2⟩ := HCy.out
  have lty := HCy.out.lt
  go_wp2_with fail
  clear xa0 xa1 xa2 ya0 ya1 ya2 lta xb0 xb1 xb2 yb0 yb1 yb2 ltb xc0 xc1 xc2 yc0 yc1 yc2 ltc xx0 xx1 xx2 yx0 yx1 yx2 ltx xy0 xy1 xy2 yy0 yy1 yy2 lty
  refine (rat_FloorF awX fitX _ _ HOx.out.zero').mono ?_
  rw [floorX.1, floorX.2]
  rintro e w13 ⟨rfl, hb⟩
  replace HCa := Lib.hid (HCa.out.on hb)
  replace HCb := Lib.hid (HCb.out.on hb)
  replace HCc := Lib.hid (HCc.out.on hb)
  replace HCx := Lib.hid (HCx.out.on hb)
  replace HCy := Lib.hid (HCy.out.on hb)
  replace HOa := Lib.hid (HOa.out.on hb)
  replace HOb := Lib.hid (HOb.out.on hb)
  replace HOc := Lib.hid (HOc.out.on hb)
  replace HOx := Lib.hid (HOx.out.on hb)
  replace HOy := Lib.hid (HOy.out.on hb)
  replace HB : Hid (Below w.heap.size w w13) := bstep HB.out hb
  clear hb
  obtain ⟨⟨xa0, xa1, xa2⟩, ya0, ya1, ya2⟩ := HCa.out
  have lta := HCa.out.lt
  obtain ⟨⟨xb0, xb1, xb2⟩, yb0, yb1, yb2⟩ := HCb.out
  have ltb := HCb.out.lt
  obtain ⟨⟨xc0, xc1, xc2⟩, yc0, yc1, yc2⟩ := HCc.out
  have ltc := HCc.out.lt
  obtain ⟨⟨xx0, xx1, xx2⟩, yx0, yx1, yx2⟩ := HCx.out
  have ltx := HCx.out.lt
  obtain ⟨⟨xy0, xy1, xy2⟩, yy0, yy1, yy2⟩ := HCy.out
  have lty := HCy.out.lt
  go_wp2_with fail
  clear xa0 xa1 xa2 ya0 ya1 ya2 lta xb0 xb1 xb2 yb0 yb1 yb2 ltb xc0 xc1 xc2 yc0 yc1 yc2 ltc xx0 xx1 xx2 yx0 yx1 yx2 ltx xy0 xy1 xy2 yy0 yy1 yy2 lty
  refine (rat_CeilF awX fitX _ _ HOx.out.zero').mono ?_
  rw [ceilX.1, ceilX.2]
  rintro e w14 ⟨rfl, hb⟩
  replace HCa := Lib.hid (HCa.out.on hb)
  replace HCb := Lib.hid (HCb.out.on hb)
  replace HCc := Lib.hid (HCc.out.on hb)
  replace HCx := Lib.hid (HCx.out.on hb)
  replace HCy := Lib.hid (HCy.out.on hb)
  replace HOa := Lib.hid (HOa.out.on hb)
  replace HOb := Lib.hid (HOb.out.on hb)
  replace HOc := Lib.hid (HOc.out.on hb)
  replace HOx := Lib.hid (HOx.out.on hb)
  replace HOy := Lib.hid (HOy.out.on hb)
  replace HB : Hid (Below w.heap.size w w14) := bstep HB.out hb
  clear hb
  obtain ⟨⟨xa0, xa1, xa2⟩, ya0, ya1, ya2⟩ := HCa.out
  have lta := HCa.out.lt
  obtain ⟨⟨xb0, xb1, xb2⟩, yb0, yb1, yb2⟩ := HCb.out
  have ltb := HCb.out.lt
  obtain ⟨⟨xc0, xc1, xc2⟩, yc0, yc1, yc2⟩ := HCc.out
  have ltc := HCc.out.lt
  obtain ⟨⟨xx0, xx1, xx2⟩, yx0, yx1, yx2⟩ := HCx.out
  have ltx := HCx.out.lt
  obtain ⟨⟨xy0, xy1, xy2⟩, yy0, yy1, yy2⟩ := HCy.out
  have lty := HCy.out.lt
  go_wp2_with fail
  clear xa0 xa1 xa2 ya0 ya1 ya2 lta xb0 xb1 xb2 yb0 yb1 yb2 ltb xc0 xc1 xc2 yc0 yc1 yc2 ltc xx0 xx1 xx2 yx0 yx1 yx2 ltx xy0 xy1 xy2 yy0 yy1 yy2 lty
  refine (text_c 6 (-4) _ _ (HT.out.on HB.out) (by decide) (by decide +kernel) txt_1 (by decide) (by decide) (by decide) (by decide)).mono ?_
  rintro e w15 ⟨rfl, hb⟩
  replace HCa := Lib.hid (HCa.out.on hb)
  replace HCb := Lib.hid (HCb.out.on hb)
  replace HCc := Lib.hid (HCc.out.on hb)
  replace HCx := Lib.hid (HCx.out.on hb)
  replace HCy := Lib.hid (HCy.out.on hb)
  replace HOa := Lib.hid (HOa.out.on hb)
  replace HOb := Lib.hid (HOb.out.on hb)
  replace HOc := Lib.hid (HOc.out.on hb)
  replace HOx := Lib.hid (HOx.out.on hb)
  replace HOy := Lib.hid (HOy.out.on hb)
  replace HB : Hid (Below w.heap.size w w15) := bstep HB.out hb
  clear hb
  obtain ⟨⟨xa0, xa1, xa2⟩, ya0, ya1, ya2⟩ := HCa.out
  have lta := HCa.out.lt
  obtain ⟨⟨xb0, xb1, xb2⟩, yb0, yb1, yb2⟩ := HCb.out
  have ltb := HCb.out.lt
  obtain ⟨⟨xc0, xc1, xc2⟩, yc0, yc1, yc2⟩ := HCc.out
  have ltc := HCc.out.lt
  obtain ⟨⟨xx0, xx1, xx2⟩, yx0, yx1, yx2⟩ := HCx.out
  have ltx := HCx.out.lt
  obtain ⟨⟨xy0, xy1, xy2⟩, yy0, yy1, yy2⟩ := HCy.out
  have lty := HCy.out.lt
  go_wp2_with fail
  clear xa0 xa1 xa2 ya0 ya1 ya2 lta xb0 xb1 xb2 yb0 yb1 yb2 ltb xc0 xc1 xc2 yc0 yc1 yc2 ltc xx0 xx1 xx2 yx0 yx1 yx2 ltx xy0 xy1 xy2 yy0 yy1 yy2 lty
  refine (text_c 0 (-7) _ _ (HT.out.on HB.out) (by decide) (by decide +kernel) txt_2 (by decide) (by decide) (by decide) (by decide)).mono ?_
  rintro e w16 ⟨rfl, hb⟩
  replace HCa := Lib.hid (HCa.out.on hb)
  replace HCb := Lib.hid (HCb.out.on hb)
  replace HCc := Lib.hid (HCc.out.on hb)
  replace HCx := Lib.hid (HCx.out.on hb)
  replace HCy := Lib.hid (HCy.out.on hb)
  replace HOa := Lib.hid (HOa.out.on hb)
  replace HOb := Lib.hid (HOb.out.on hb)
  replace HOc := Lib.hid (HOc.out.on hb)
  replace HOx := Lib.hid (HOx.out.on hb)
  replace HOy := Lib.hid (HOy.out.on hb)
  replace HB : Hid (Below w.heap.size w w16) := bstep HB.out hb
  clear hb
  obtain ⟨⟨xa0, xa1, xa2⟩, ya0, ya1, ya2⟩ := HCa.out
  have lta := HCa.out.lt
  obtain ⟨⟨xb0, xb1, xb2⟩, yb0, yb1, yb2⟩ := HCb.out
  have ltb := HCb.out.lt
  obtain ⟨⟨xc0, xc1, xc2⟩, yc0, yc1, yc2⟩ := HCc.out
  have ltc := HCc.out.lt
  obtain ⟨⟨xx0, xx1, xx2⟩, yx0, yx1, yx2⟩ := HCx.out
  have ltx := HCx.out.lt
  obtain ⟨⟨xy0, xy1, xy2⟩, yy0, yy1, yy2⟩ := HCy.out
  have lty := HCy.out.lt
  go_wp2_with fail
  go_ret
  exact ⟨rfl, HB.out⟩
end Go.Proofs.YthkhaipbdphpeaaDoor
