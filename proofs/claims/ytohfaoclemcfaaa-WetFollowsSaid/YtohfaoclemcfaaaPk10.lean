/- Several texts in one: RatL, RatM. -/
import Derived.Test.YtohfaoclemcfaaaPk9
/- Contracts of Add and Mul of rat. -/
namespace Go.Proofs.Ytohfaoclemcfaaa
open Go.ChangeShapes Go.WideShapes Go.RowKit
set_option linter.unusedVariables false
set_option maxRecDepth 100000

/-- Both arguments valid. -/
def two (b : Bool) (xs ys : List Int) (c : Bool) (zs ts : List Int) : Bool := valR b xs ys && valR c zs ts
theorem two_cases (b : Bool) (xs ys : List Int) (c : Bool) (zs ts : List Int) :
    (valR b xs ys = false ∧ two b xs ys c zs ts = false) ∨ (valR b xs ys = true ∧ valR c zs ts = false ∧ two b xs ys c zs ts = false) ∨
    (two b xs ys c zs ts = true ∧ ∃ r s, (fitR r = true ∧ b = negR r ∧ xs = topL r ∧ ys = botL r) ∧ (fitR s = true ∧ c = negR s ∧ zs = topL s ∧ ts = botL s)) := by
  unfold two
  cases h1 : valR b xs ys with
  | false => exact Or.inl ⟨rfl, rfl⟩
  | true =>
    cases h2 : valR c zs ts with
    | false => exact Or.inr (Or.inl ⟨rfl, rfl, rfl⟩)
    | true =>
      obtain ⟨r, hr⟩ := val_form h1
      obtain ⟨s, hs⟩ := val_form h2
      exact Or.inr (Or.inr ⟨rfl, r, s, hr, hs⟩)
theorem two_form {r s : Rat} (hr : fitR r = true) (hs : fitR s = true) : two (negR r) (topL r) (botL r) (negR s) (topL s) (botL s) = true := by
  unfold two; rw [(form_val hr).1, (form_val hs).1]; rfl
def opE (ok : Rat → Rat → Bool) (b : Bool) (xs ys : List Int) (c : Bool) (zs ts : List Int) : Int := if two b xs ys c zs ts then okE (ok (ratV b xs ys) (ratV c zs ts)) else 3
def opV (f : Rat → Rat → Rat) (b : Bool) (xs ys : List Int) (c : Bool) (zs ts : List Int) : Rat := f (ratV b xs ys) (ratV c zs ts)
theorem opE_no {ok : Rat → Rat → Bool} {b : Bool} {xs ys : List Int} {c : Bool} {zs ts : List Int} (h : two b xs ys c zs ts = false) : opE ok b xs ys c zs ts = 3 := by unfold opE; rw [h]; rfl
theorem op_form {ok : Rat → Rat → Bool} {f : Rat → Rat → Rat} {r s : Rat} (hr : fitR r = true) (hs : fitR s = true) :
    opE ok (negR r) (topL r) (botL r) (negR s) (topL s) (botL s) = okE (ok r s) ∧ opV f (negR r) (topL r) (botL r) (negR s) (topL s) (botL s) = f r s := by
  unfold opE opV; rw [two_form hr hs, (form_val hr).2, (form_val hs).2]; exact ⟨rfl, rfl⟩
def addOp (r s : Rat) : Rat := r + s
def mulOp (r s : Rat) : Rat := r * s
/-- The result from a call below. -/
theorem RRes.open_ {w : World} {err : Int} {r : Rat} {e : Ending} {w' : World} (h : RRes w err r e w') :
    ∃ b A n c B m d, e = .returned (.tuple #[.agg #[.bool b, .slice A n c, .slice B m d], .int .i64 err]) ∧ OutR w' (.agg #[.bool b, .slice A n c, .slice B m d]) err r ∧ Below w.heap.size w w' := by
  obtain ⟨v, rfl, ho, hb⟩ := h
  have k : ∃ b xs ys, InR w' v b xs ys := by
    unfold OutR at ho; split at ho
    · exact ⟨_, _, _, ho⟩
    · exact ⟨_, _, _, ho⟩
  obtain ⟨b, xs, ys, vp, vq, rfl, h1, h2⟩ := k
  obtain ⟨A, c, rfl, -⟩ := in_open h1
  obtain ⟨B, d, rfl, -⟩ := in_open h2
  exact ⟨b, A, _, c, B, _, d, rfl, ho, hb⟩
theorem InR.put3 {w : World} {v : Value} {b b' : Bool} {xs ys : List Int} {g : Nat} {A B : Option Addr} {n c m d : Nat} (h : InR w v b xs ys) (hc : Cel w g (.bool b') (.slice A n c) (.slice B m d)) (x0 x1 x2 : Value) : InR (put3 w g x0 x1 x2) v b xs ys := by
  obtain ⟨vp, vq, e, h1, h2⟩ := h; exact ⟨vp, vq, e, h1.put3 hc _ _ _, h2.put3 hc _ _ _⟩
theorem OutR.on {w w' : World} {v : Value} {err : Int} {r : Rat} (h : OutR w v err r) (hb : Below w.heap.size w w') : OutR w' v err r := by
  unfold OutR at *
  split
  · rename_i e; rw [if_pos e] at h; exact InR.on h hb
  · rename_i e; rw [if_neg e] at h; exact InR.on h hb
theorem OutR.put3 {w : World} {v : Value} {err : Int} {r : Rat} {b' : Bool} {g : Nat} {A B : Option Addr} {n c m d : Nat} (h : OutR w v err r) (hc : Cel w g (.bool b') (.slice A n c) (.slice B m d)) (x0 x1 x2 : Value) : OutR (put3 w g x0 x1 x2) v err r := by
  unfold OutR at *
  split
  · rename_i e; rw [if_pos e] at h; exact InR.put3 h hc _ _ _
  · rename_i e; rw [if_neg e] at h; exact InR.put3 h hc _ _ _

set_option maxHeartbeats 1600000 in
theorem rat_Add_no1 (b : Bool) (xs ys : List Int) (c : Bool) (zs ts : List Int) (v u : Value) (w : World) (hv : InR w v b xs ys) (hu : InR w u c zs ts) (hn1 : valR b xs ys = false) (hn : two b xs ys c zs ts = false) :
    Calls Try.prog 57 #[v, u] w (RRes w (opE sumOk b xs ys c zs ts) (opV addOp b xs ys c zs ts)) := by
  have HN1 := Lib.hid hn1
  have HN := Lib.hid hn
  clear hn1 hn
  obtain ⟨vp, vq, rfl, h1, h2⟩ := hv
  obtain ⟨up, uq, rfl, h3, h4⟩ := hu
  obtain ⟨A1, c1, rfl, h1'⟩ := in_open h1
  obtain ⟨A2, c2, rfl, h2'⟩ := in_open h2
  obtain ⟨A3, c3, rfl, h3'⟩ := in_open h3
  obtain ⟨A4, c4, rfl, h4'⟩ := in_open h4
  have HV := Lib.hid (show InR w (.agg #[.bool b, .slice A1 xs.length c1, .slice A2 ys.length c2]) b xs ys from ⟨_, _, rfl, h1', h2'⟩)
  have HU := Lib.hid (show InR w (.agg #[.bool c, .slice A3 zs.length c3, .slice A4 ts.length c4]) c zs ts from ⟨_, _, rfl, h3', h4'⟩)
  have HC := Lib.hid (Cel.new ((w.alloc (.cells #[.bool b, .slice A1 xs.length c1, .slice A2 ys.length c2] 27)).alloc (.cells #[.bool c, .slice A3 zs.length c3, .slice A4 ts.length c4] 27)) (.bool false) (.slice none 0 0) (.slice none 0 0) 27)
  have HCA := Lib.hid (((Cel.new w (.bool b) (.slice A1 xs.length c1) (.slice A2 ys.length c2) 27).alloc (.cells #[.bool c, .slice A3 zs.length c3, .slice A4 ts.length c4] 27)).alloc (.cells #[.bool false, .slice none 0 0, .slice none 0 0] 27))
  have HCB := Lib.hid ((Cel.new (w.alloc (.cells #[.bool b, .slice A1 xs.length c1, .slice A2 ys.length c2] 27)) (.bool c) (.slice A3 zs.length c3) (.slice A4 ts.length c4) 27).alloc (.cells #[.bool false, .slice none 0 0, .slice none 0 0] 27))
  simp only [World.size_alloc] at HC HCB
  have hb0 : ∀ o1 o2 o3, Below w.heap.size w (((w.alloc o1).alloc o2).alloc o3) := fun _ _ _ => balloc (balloc (below_alloc _ _) _) _
  have hz0 : ∀ o1 o2 o3, (((w.alloc o1).alloc o2).alloc o3).heap.size = w.heap.size + 3 := fun _ _ _ => by simp
  have HB0 := Lib.hid hb0
  have HZ0 := Lib.hid hz0
  clear h1 h2 h3 h4 h1' h2' h3' h4' hb0 hz0
  go_enter Try.func57, Try.ntmps57
  go_wp2_with fail
  refine (rat_Valid _ _ _ _ _ (HV.out.on (HB0.out _ _ _))).mono ?_
  rw [HN1.out]
  rintro e w1 ⟨rfl, hb1⟩
  have HZ1 : w.heap.size + 3 ≤ w1.heap.size := by have := hb1.size; rw [HZ0.out] at this; exact this
  have HB1 : Hid (Below w.heap.size w w1) := (HB0.out _ _ _).trans (hb1.mono (by rw [HZ0.out]; omega))
  have HC1 := Lib.hid (HC.out.on hb1)
  have HCA1 := Lib.hid (HCA.out.on hb1)
  have HCB1 := Lib.hid (HCB.out.on hb1)
  clear hb1
  obtain ⟨⟨r0, r1, r2⟩, s0, s1, s2⟩ : Cel w1 (w.heap.size + 1 + 1) (.bool false) (.slice none 0 0) (.slice none 0 0) := HC1.out
  go_wp2_with fail
  obtain ⟨⟨z0, z1, z2⟩, -⟩ := HC1.out.put3 (.bool false) (.slice none 0 0) (.slice none 0 0)
  simp only [put3] at z0 z1 z2
  refine bodyPost_ret (v := .tuple #[.agg #[.bool false, .slice none 0 0, .slice none 0 0], .int .i64 3]) (by simp [results, Try.results57, go_sem, z0, z1, z2]) rfl ?_
  rw [opE_no HN.out]
  exact ⟨_, rfl, OutR.no (by decide), below_put3 HB1.out (g := w.heap.size + 1 + 1) (by omega) _ _ _⟩

set_option maxHeartbeats 1600000 in
theorem rat_Add_no2 (b : Bool) (xs ys : List Int) (c : Bool) (zs ts : List Int) (v u : Value) (w : World) (hv : InR w v b xs ys) (hu : InR w u c zs ts) (hn1 : valR b xs ys = true) (hn2 : valR c zs ts = false) (hn : two b xs ys c zs ts = false) :
    Calls Try.prog 57 #[v, u] w (RRes w (opE sumOk b xs ys c zs ts) (opV addOp b xs ys c zs ts)) := by
  have HN1 := Lib.hid hn1
  have HN2 := Lib.hid hn2
  have HN := Lib.hid hn
  clear hn1 hn2 hn
  obtain ⟨vp, vq, rfl, h1, h2⟩ := hv
  obtain ⟨up, uq, rfl, h3, h4⟩ := hu
  obtain ⟨A1, c1, rfl, h1'⟩ := in_open h1
  obtain ⟨A2, c2, rfl, h2'⟩ := in_open h2
  obtain ⟨A3, c3, rfl, h3'⟩ := in_open h3
  obtain ⟨A4, c4, rfl, h4'⟩ := in_open h4
  have HV := Lib.hid (show InR w (.agg #[.bool b, .slice A1 xs.length c1, .slice A2 ys.length c2]) b xs ys from ⟨_, _, rfl, h1', h2'⟩)
  have HU := Lib.hid (show InR w (.agg #[.bool c, .slice A3 zs.length c3, .slice A4 ts.length c4]) c zs ts from ⟨_, _, rfl, h3', h4'⟩)
  have HC := Lib.hid (Cel.new ((w.alloc (.cells #[.bool b, .slice A1 xs.length c1, .slice A2 ys.length c2] 27)).alloc (.cells #[.bool c, .slice A3 zs.length c3, .slice A4 ts.length c4] 27)) (.bool false) (.slice none 0 0) (.slice none 0 0) 27)
  have HCA := Lib.hid (((Cel.new w (.bool b) (.slice A1 xs.length c1) (.slice A2 ys.length c2) 27).alloc (.cells #[.bool c, .slice A3 zs.length c3, .slice A4 ts.length c4] 27)).alloc (.cells #[.bool false, .slice none 0 0, .slice none 0 0] 27))
  have HCB := Lib.hid ((Cel.new (w.alloc (.cells #[.bool b, .slice A1 xs.length c1, .slice A2 ys.length c2] 27)) (.bool c) (.slice A3 zs.length c3) (.slice A4 ts.length c4) 27).alloc (.cells #[.bool false, .slice none 0 0, .slice none 0 0] 27))
  simp only [World.size_alloc] at HC HCB
  have hb0 : ∀ o1 o2 o3, Below w.heap.size w (((w.alloc o1).alloc o2).alloc o3) := fun _ _ _ => balloc (balloc (below_alloc _ _) _) _
  have hz0 : ∀ o1 o2 o3, (((w.alloc o1).alloc o2).alloc o3).heap.size = w.heap.size + 3 := fun _ _ _ => by simp
  have HB0 := Lib.hid hb0
  have HZ0 := Lib.hid hz0
  clear h1 h2 h3 h4 h1' h2' h3' h4' hb0 hz0
  go_enter Try.func57, Try.ntmps57
  go_wp2_with fail
  refine (rat_Valid _ _ _ _ _ (HV.out.on (HB0.out _ _ _))).mono ?_
  rw [HN1.out]
  rintro e w1 ⟨rfl, hb1⟩
  have HZ1 : w.heap.size + 3 ≤ w1.heap.size := by have := hb1.size; rw [HZ0.out] at this; exact this
  have HB1 : Hid (Below w.heap.size w w1) := (HB0.out _ _ _).trans (hb1.mono (by rw [HZ0.out]; omega))
  have HC1 := Lib.hid (HC.out.on hb1)
  have HCA1 := Lib.hid (HCA.out.on hb1)
  have HCB1 := Lib.hid (HCB.out.on hb1)
  clear hb1
  obtain ⟨⟨b0, b1, b2⟩, -⟩ : Cel w1 (w.heap.size + 1) (.bool c) (.slice A3 zs.length c3) (.slice A4 ts.length c4) := HCB1.out
  go_wp2_with fail
  clear b0 b1 b2
  refine (rat_Valid _ _ _ _ _ (HU.out.on HB1.out)).mono ?_
  rw [HN2.out]
  rintro e w2 ⟨rfl, hb2⟩
  have HZ2 : w.heap.size + 3 ≤ w2.heap.size := by have := hb2.size; omega
  have HB2 : Hid (Below w.heap.size w w2) := HB1.out.trans (hb2.mono (by omega))
  have HC2 := Lib.hid (HC1.out.on hb2)
  have HCA2 := Lib.hid (HCA1.out.on hb2)
  have HCB2 := Lib.hid (HCB1.out.on hb2)
  clear hb2
  obtain ⟨⟨r0, r1, r2⟩, s0, s1, s2⟩ : Cel w2 (w.heap.size + 1 + 1) (.bool false) (.slice none 0 0) (.slice none 0 0) := HC2.out
  go_wp2_with fail
  obtain ⟨⟨z0, z1, z2⟩, -⟩ := HC2.out.put3 (.bool false) (.slice none 0 0) (.slice none 0 0)
  simp only [put3] at z0 z1 z2
  refine bodyPost_ret (v := .tuple #[.agg #[.bool false, .slice none 0 0, .slice none 0 0], .int .i64 3]) (by simp [results, Try.results57, go_sem, z0, z1, z2]) rfl ?_
  rw [opE_no HN.out]
  exact ⟨_, rfl, OutR.no (by decide), below_put3 HB2.out (g := w.heap.size + 1 + 1) (by omega) _ _ _⟩

set_option maxHeartbeats 1600000 in
theorem rat_Add_yes (r s : Rat) (hr : fitR r = true) (hs : fitR s = true) (v u : Value) (w : World) (hv : IsR w v r) (hu : IsR w u s) :
    Calls Try.prog 57 #[v, u] w (RRes w (opE sumOk (negR r) (topL r) (botL r) (negR s) (topL s) (botL s)) (opV addOp (negR r) (topL r) (botL r) (negR s) (topL s) (botL s))) := by
  have HF := Lib.hid (op_form (ok := sumOk) (f := addOp) hr hs)
  have HR := Lib.hid hr
  have HS := Lib.hid hs
  have HN1 := Lib.hid (form_val hr).1
  have HN2 := Lib.hid (form_val hs).1
  clear hr hs
  obtain ⟨vp, vq, rfl, h1, h2⟩ := hv
  obtain ⟨up, uq, rfl, h3, h4⟩ := hu
  obtain ⟨A1, c1, rfl, h1'⟩ := in_open h1
  obtain ⟨A2, c2, rfl, h2'⟩ := in_open h2
  obtain ⟨A3, c3, rfl, h3'⟩ := in_open h3
  obtain ⟨A4, c4, rfl, h4'⟩ := in_open h4
  have HV := Lib.hid (show InR w (.agg #[.bool (negR r), .slice A1 (topL r).length c1, .slice A2 (botL r).length c2]) (negR r) (topL r) (botL r) from ⟨_, _, rfl, h1', h2'⟩)
  have HU := Lib.hid (show InR w (.agg #[.bool (negR s), .slice A3 (topL s).length c3, .slice A4 (botL s).length c4]) (negR s) (topL s) (botL s) from ⟨_, _, rfl, h3', h4'⟩)
  have HC := Lib.hid (Cel.new ((w.alloc (.cells #[.bool (negR r), .slice A1 (topL r).length c1, .slice A2 (botL r).length c2] 27)).alloc (.cells #[.bool (negR s), .slice A3 (topL s).length c3, .slice A4 (botL s).length c4] 27)) (.bool false) (.slice none 0 0) (.slice none 0 0) 27)
  have HCA := Lib.hid (((Cel.new w (.bool (negR r)) (.slice A1 (topL r).length c1) (.slice A2 (botL r).length c2) 27).alloc (.cells #[.bool (negR s), .slice A3 (topL s).length c3, .slice A4 (botL s).length c4] 27)).alloc (.cells #[.bool false, .slice none 0 0, .slice none 0 0] 27))
  have HCB := Lib.hid ((Cel.new (w.alloc (.cells #[.bool (negR r), .slice A1 (topL r).length c1, .slice A2 (botL r).length c2] 27)) (.bool (negR s)) (.slice A3 (topL s).length c3) (.slice A4 (botL s).length c4) 27).alloc (.cells #[.bool false, .slice none 0 0, .slice none 0 0] 27))
  simp only [World.size_alloc] at HC HCB
  have hb0 : ∀ o1 o2 o3, Below w.heap.size w (((w.alloc o1).alloc o2).alloc o3) := fun _ _ _ => balloc (balloc (below_alloc _ _) _) _
  have hz0 : ∀ o1 o2 o3, (((w.alloc o1).alloc o2).alloc o3).heap.size = w.heap.size + 3 := fun _ _ _ => by simp
  have HB0 := Lib.hid hb0
  have HZ0 := Lib.hid hz0
  clear h1 h2 h3 h4 h1' h2' h3' h4' hb0 hz0
  go_enter Try.func57, Try.ntmps57
  go_wp2_with fail
  refine (rat_Valid _ _ _ _ _ (HV.out.on (HB0.out _ _ _))).mono ?_
  rw [HN1.out]
  rintro e w1 ⟨rfl, hb1⟩
  have HZ1 : w.heap.size + 3 ≤ w1.heap.size := by have := hb1.size; rw [HZ0.out] at this; exact this
  have HB1 : Hid (Below w.heap.size w w1) := (HB0.out _ _ _).trans (hb1.mono (by rw [HZ0.out]; omega))
  have HC1 := Lib.hid (HC.out.on hb1)
  have HCA1 := Lib.hid (HCA.out.on hb1)
  have HCB1 := Lib.hid (HCB.out.on hb1)
  clear hb1
  obtain ⟨⟨b0, b1, b2⟩, -⟩ : Cel w1 (w.heap.size + 1) (.bool (negR s)) (.slice A3 (topL s).length c3) (.slice A4 (botL s).length c4) := HCB1.out
  go_wp2_with fail
  clear b0 b1 b2
  refine (rat_Valid _ _ _ _ _ (HU.out.on HB1.out)).mono ?_
  rw [HN2.out]
  rintro e w2 ⟨rfl, hb2⟩
  have HZ2 : w.heap.size + 3 ≤ w2.heap.size := by have := hb2.size; omega
  have HB2 : Hid (Below w.heap.size w w2) := HB1.out.trans (hb2.mono (by omega))
  have HC2 := Lib.hid (HC1.out.on hb2)
  have HCA2 := Lib.hid (HCA1.out.on hb2)
  have HCB2 := Lib.hid (HCB1.out.on hb2)
  clear hb2
  obtain ⟨⟨a0, a1, a2⟩, -⟩ : Cel w2 w.heap.size (.bool (negR r)) (.slice A1 (topL r).length c1) (.slice A2 (botL r).length c2) := HCA2.out
  obtain ⟨⟨b0, b1, b2⟩, -⟩ : Cel w2 (w.heap.size + 1) (.bool (negR s)) (.slice A3 (topL s).length c3) (.slice A4 (botL s).length c4) := HCB2.out
  go_wp2_with fail
  refine (rat_sum r s HR.out HS.out _ _ w2 (HV.out.on HB2.out) (HU.out.on HB2.out)).mono ?_
  rintro e w3 h3
  obtain ⟨b3, A5, n5, d5, A6, n6, d6, rfl, ho3, hb3⟩ := h3.open_
  have HO3 := Lib.hid ho3
  have HB3 := Lib.hid hb3
  have HC3 := HC2.out.on hb3
  have HC3' := Lib.hid HC3
  have HRR := Lib.hid (HC3.put3 (.bool b3) (.slice A5 n5 d5) (.slice A6 n6 d6))
  obtain ⟨⟨d0, d1, d2⟩, f0, f1, f2⟩ := HC3
  clear h3 ho3 hb3 a0 a1 a2 b0 b1 b2
  go_wp2_with fail
  obtain ⟨⟨r0, r1, r2⟩, -⟩ := HRR.out
  refine bodyPost_ret (v := .tuple #[.agg #[.bool b3, .slice A5 n5 d5, .slice A6 n6 d6], .int .i64 (okE (sumOk r s))]) (by simp only [put3] at r0 r1 r2; simp [results, Try.results57, go_sem, r0, r1, r2]) rfl ?_
  rw [HF.out.1, HF.out.2]
  exact ⟨_, rfl, HO3.out.put3 HC3'.out _ _ _, below_put3 (HB2.out.trans (HB3.out.mono (by omega))) (by omega) _ _ _⟩

theorem rat_Add (b : Bool) (xs ys : List Int) (c : Bool) (zs ts : List Int) (v u : Value) (w : World) (hv : InR w v b xs ys) (hu : InR w u c zs ts) :
    Calls Try.prog 57 #[v, u] w (RRes w (opE sumOk b xs ys c zs ts) (opV addOp b xs ys c zs ts)) := by
  rcases two_cases b xs ys c zs ts with ⟨h1, h⟩ | ⟨h1, h2, h⟩ | ⟨h, r, s, ⟨hr, rfl, rfl, rfl⟩, hs, rfl, rfl, rfl⟩
  · exact rat_Add_no1 b xs ys c zs ts v u w hv hu h1 h
  · exact rat_Add_no2 b xs ys c zs ts v u w hv hu h1 h2 h
  · exact rat_Add_yes r s hr hs v u w hv hu

set_option maxHeartbeats 1600000 in
theorem rat_Mul_no1 (b : Bool) (xs ys : List Int) (c : Bool) (zs ts : List Int) (v u : Value) (w : World) (hv : InR w v b xs ys) (hu : InR w u c zs ts) (hn1 : valR b xs ys = false) (hn : two b xs ys c zs ts = false) :
    Calls Try.prog 32 #[v, u] w (RRes w (opE mulOk b xs ys c zs ts) (opV mulOp b xs ys c zs ts)) := by
  have HN1 := Lib.hid hn1
  have HN := Lib.hid hn
  clear hn1 hn
  obtain ⟨vp, vq, rfl, h1, h2⟩ := hv
  obtain ⟨up, uq, rfl, h3, h4⟩ := hu
  obtain ⟨A1, c1, rfl, h1'⟩ := in_open h1
  obtain ⟨A2, c2, rfl, h2'⟩ := in_open h2
  obtain ⟨A3, c3, rfl, h3'⟩ := in_open h3
  obtain ⟨A4, c4, rfl, h4'⟩ := in_open h4
  have HV := Lib.hid (show InR w (.agg #[.bool b, .slice A1 xs.length c1, .slice A2 ys.length c2]) b xs ys from ⟨_, _, rfl, h1', h2'⟩)
  have HU := Lib.hid (show InR w (.agg #[.bool c, .slice A3 zs.length c3, .slice A4 ts.length c4]) c zs ts from ⟨_, _, rfl, h3', h4'⟩)
  have HC := Lib.hid (Cel.new ((w.alloc (.cells #[.bool b, .slice A1 xs.length c1, .slice A2 ys.length c2] 27)).alloc (.cells #[.bool c, .slice A3 zs.length c3, .slice A4 ts.length c4] 27)) (.bool false) (.slice none 0 0) (.slice none 0 0) 27)
  have HCA := Lib.hid (((Cel.new w (.bool b) (.slice A1 xs.length c1) (.slice A2 ys.length c2) 27).alloc (.cells #[.bool c, .slice A3 zs.length c3, .slice A4 ts.length c4] 27)).alloc (.cells #[.bool false, .slice none 0 0, .slice none 0 0] 27))
  have HCB := Lib.hid ((Cel.new (w.alloc (.cells #[.bool b, .slice A1 xs.length c1, .slice A2 ys.length c2] 27)) (.bool c) (.slice A3 zs.length c3) (.slice A4 ts.length c4) 27).alloc (.cells #[.bool false, .slice none 0 0, .slice none 0 0] 27))
  simp only [World.size_alloc] at HC HCB
  have hb0 : ∀ o1 o2 o3, Below w.heap.size w (((w.alloc o1).alloc o2).alloc o3) := fun _ _ _ => balloc (balloc (below_alloc _ _) _) _
  have hz0 : ∀ o1 o2 o3, (((w.alloc o1).alloc o2).alloc o3).heap.size = w.heap.size + 3 := fun _ _ _ => by simp
  have HB0 := Lib.hid hb0
  have HZ0 := Lib.hid hz0
  clear h1 h2 h3 h4 h1' h2' h3' h4' hb0 hz0
  go_enter Try.func32, Try.ntmps32
  go_wp2_with fail
  refine (rat_Valid _ _ _ _ _ (HV.out.on (HB0.out _ _ _))).mono ?_
  rw [HN1.out]
  rintro e w1 ⟨rfl, hb1⟩
  have HZ1 : w.heap.size + 3 ≤ w1.heap.size := by have := hb1.size; rw [HZ0.out] at this; exact this
  have HB1 : Hid (Below w.heap.size w w1) := (HB0.out _ _ _).trans (hb1.mono (by rw [HZ0.out]; omega))
  have HC1 := Lib.hid (HC.out.on hb1)
  have HCA1 := Lib.hid (HCA.out.on hb1)
  have HCB1 := Lib.hid (HCB.out.on hb1)
  clear hb1
  obtain ⟨⟨r0, r1, r2⟩, s0, s1, s2⟩ : Cel w1 (w.heap.size + 1 + 1) (.bool false) (.slice none 0 0) (.slice none 0 0) := HC1.out
  go_wp2_with fail
  obtain ⟨⟨z0, z1, z2⟩, -⟩ := HC1.out.put3 (.bool false) (.slice none 0 0) (.slice none 0 0)
  simp only [put3] at z0 z1 z2
  refine bodyPost_ret (v := .tuple #[.agg #[.bool false, .slice none 0 0, .slice none 0 0], .int .i64 3]) (by simp [results, Try.results32, go_sem, z0, z1, z2]) rfl ?_
  rw [opE_no HN.out]
  exact ⟨_, rfl, OutR.no (by decide), below_put3 HB1.out (g := w.heap.size + 1 + 1) (by omega) _ _ _⟩

set_option maxHeartbeats 1600000 in
theorem rat_Mul_no2 (b : Bool) (xs ys : List Int) (c : Bool) (zs ts : List Int) (v u : Value) (w : World) (hv : InR w v b xs ys) (hu : InR w u c zs ts) (hn1 : valR b xs ys = true) (hn2 : valR c zs ts = false) (hn : two b xs ys c zs ts = false) :
    Calls Try.prog 32 #[v, u] w (RRes w (opE mulOk b xs ys c zs ts) (opV mulOp b xs ys c zs ts)) := by
  have HN1 := Lib.hid hn1
  have HN2 := Lib.hid hn2
  have HN := Lib.hid hn
  clear hn1 hn2 hn
  obtain ⟨vp, vq, rfl, h1, h2⟩ := hv
  obtain ⟨up, uq, rfl, h3, h4⟩ := hu
  obtain ⟨A1, c1, rfl, h1'⟩ := in_open h1
  obtain ⟨A2, c2, rfl, h2'⟩ := in_open h2
  obtain ⟨A3, c3, rfl, h3'⟩ := in_open h3
  obtain ⟨A4, c4, rfl, h4'⟩ := in_open h4
  have HV := Lib.hid (show InR w (.agg #[.bool b, .slice A1 xs.length c1, .slice A2 ys.length c2]) b xs ys from ⟨_, _, rfl, h1', h2'⟩)
  have HU := Lib.hid (show InR w (.agg #[.bool c, .slice A3 zs.length c3, .slice A4 ts.length c4]) c zs ts from ⟨_, _, rfl, h3', h4'⟩)
  have HC := Lib.hid (Cel.new ((w.alloc (.cells #[.bool b, .slice A1 xs.length c1, .slice A2 ys.length c2] 27)).alloc (.cells #[.bool c, .slice A3 zs.length c3, .slice A4 ts.length c4] 27)) (.bool false) (.slice none 0 0) (.slice none 0 0) 27)
  have HCA := Lib.hid (((Cel.new w (.bool b) (.slice A1 xs.length c1) (.slice A2 ys.length c2) 27).alloc (.cells #[.bool c, .slice A3 zs.length c3, .slice A4 ts.length c4] 27)).alloc (.cells #[.bool false, .slice none 0 0, .slice none 0 0] 27))
  have HCB := Lib.hid ((Cel.new (w.alloc (.cells #[.bool b, .slice A1 xs.length c1, .slice A2 ys.length c2] 27)) (.bool c) (.slice A3 zs.length c3) (.slice A4 ts.length c4) 27).alloc (.cells #[.bool false, .slice none 0 0, .slice none 0 0] 27))
  simp only [World.size_alloc] at HC HCB
  have hb0 : ∀ o1 o2 o3, Below w.heap.size w (((w.alloc o1).alloc o2).alloc o3) := fun _ _ _ => balloc (balloc (below_alloc _ _) _) _
  have hz0 : ∀ o1 o2 o3, (((w.alloc o1).alloc o2).alloc o3).heap.size = w.heap.size + 3 := fun _ _ _ => by simp
  have HB0 := Lib.hid hb0
  have HZ0 := Lib.hid hz0
  clear h1 h2 h3 h4 h1' h2' h3' h4' hb0 hz0
  go_enter Try.func32, Try.ntmps32
  go_wp2_with fail
  refine (rat_Valid _ _ _ _ _ (HV.out.on (HB0.out _ _ _))).mono ?_
  rw [HN1.out]
  rintro e w1 ⟨rfl, hb1⟩
  have HZ1 : w.heap.size + 3 ≤ w1.heap.size := by have := hb1.size; rw [HZ0.out] at this; exact this
  have HB1 : Hid (Below w.heap.size w w1) := (HB0.out _ _ _).trans (hb1.mono (by rw [HZ0.out]; omega))
  have HC1 := Lib.hid (HC.out.on hb1)
  have HCA1 := Lib.hid (HCA.out.on hb1)
  have HCB1 := Lib.hid (HCB.out.on hb1)
  clear hb1
  obtain ⟨⟨b0, b1, b2⟩, -⟩ : Cel w1 (w.heap.size + 1) (.bool c) (.slice A3 zs.length c3) (.slice A4 ts.length c4) := HCB1.out
  go_wp2_with fail
  clear b0 b1 b2
  refine (rat_Valid _ _ _ _ _ (HU.out.on HB1.out)).mono ?_
  rw [HN2.out]
  rintro e w2 ⟨rfl, hb2⟩
  have HZ2 : w.heap.size + 3 ≤ w2.heap.size := by have := hb2.size; omega
  have HB2 : Hid (Below w.heap.size w w2) := HB1.out.trans (hb2.mono (by omega))
  have HC2 := Lib.hid (HC1.out.on hb2)
  have HCA2 := Lib.hid (HCA1.out.on hb2)
  have HCB2 := Lib.hid (HCB1.out.on hb2)
  clear hb2
  obtain ⟨⟨r0, r1, r2⟩, s0, s1, s2⟩ : Cel w2 (w.heap.size + 1 + 1) (.bool false) (.slice none 0 0) (.slice none 0 0) := HC2.out
  go_wp2_with fail
  obtain ⟨⟨z0, z1, z2⟩, -⟩ := HC2.out.put3 (.bool false) (.slice none 0 0) (.slice none 0 0)
  simp only [put3] at z0 z1 z2
  refine bodyPost_ret (v := .tuple #[.agg #[.bool false, .slice none 0 0, .slice none 0 0], .int .i64 3]) (by simp [results, Try.results32, go_sem, z0, z1, z2]) rfl ?_
  rw [opE_no HN.out]
  exact ⟨_, rfl, OutR.no (by decide), below_put3 HB2.out (g := w.heap.size + 1 + 1) (by omega) _ _ _⟩

set_option maxHeartbeats 1600000 in
theorem rat_Mul_yes (r s : Rat) (hr : fitR r = true) (hs : fitR s = true) (v u : Value) (w : World) (hv : IsR w v r) (hu : IsR w u s) :
    Calls Try.prog 32 #[v, u] w (RRes w (opE mulOk (negR r) (topL r) (botL r) (negR s) (topL s) (botL s)) (opV mulOp (negR r) (topL r) (botL r) (negR s) (topL s) (botL s))) := by
  have HF := Lib.hid (op_form (ok := mulOk) (f := mulOp) hr hs)
  have HR := Lib.hid hr
  have HS := Lib.hid hs
  have HN1 := Lib.hid (form_val hr).1
  have HN2 := Lib.hid (form_val hs).1
  clear hr hs
  obtain ⟨vp, vq, rfl, h1, h2⟩ := hv
  obtain ⟨up, uq, rfl, h3, h4⟩ := hu
  obtain ⟨A1, c1, rfl, h1'⟩ := in_open h1
  obtain ⟨A2, c2, rfl, h2'⟩ := in_open h2
  obtain ⟨A3, c3, rfl, h3'⟩ := in_open h3
  obtain ⟨A4, c4, rfl, h4'⟩ := in_open h4
  have HV := Lib.hid (show InR w (.agg #[.bool (negR r), .slice A1 (topL r).length c1, .slice A2 (botL r).length c2]) (negR r) (topL r) (botL r) from ⟨_, _, rfl, h1', h2'⟩)
  have HU := Lib.hid (show InR w (.agg #[.bool (negR s), .slice A3 (topL s).length c3, .slice A4 (botL s).length c4]) (negR s) (topL s) (botL s) from ⟨_, _, rfl, h3', h4'⟩)
  have HC := Lib.hid (Cel.new ((w.alloc (.cells #[.bool (negR r), .slice A1 (topL r).length c1, .slice A2 (botL r).length c2] 27)).alloc (.cells #[.bool (negR s), .slice A3 (topL s).length c3, .slice A4 (botL s).length c4] 27)) (.bool false) (.slice none 0 0) (.slice none 0 0) 27)
  have HCA := Lib.hid (((Cel.new w (.bool (negR r)) (.slice A1 (topL r).length c1) (.slice A2 (botL r).length c2) 27).alloc (.cells #[.bool (negR s), .slice A3 (topL s).length c3, .slice A4 (botL s).length c4] 27)).alloc (.cells #[.bool false, .slice none 0 0, .slice none 0 0] 27))
  have HCB := Lib.hid ((Cel.new (w.alloc (.cells #[.bool (negR r), .slice A1 (topL r).length c1, .slice A2 (botL r).length c2] 27)) (.bool (negR s)) (.slice A3 (topL s).length c3) (.slice A4 (botL s).length c4) 27).alloc (.cells #[.bool false, .slice none 0 0, .slice none 0 0] 27))
  simp only [World.size_alloc] at HC HCB
  have hb0 : ∀ o1 o2 o3, Below w.heap.size w (((w.alloc o1).alloc o2).alloc o3) := fun _ _ _ => balloc (balloc (below_alloc _ _) _) _
  have hz0 : ∀ o1 o2 o3, (((w.alloc o1).alloc o2).alloc o3).heap.size = w.heap.size + 3 := fun _ _ _ => by simp
  have HB0 := Lib.hid hb0
  have HZ0 := Lib.hid hz0
  clear h1 h2 h3 h4 h1' h2' h3' h4' hb0 hz0
  go_enter Try.func32, Try.ntmps32
  go_wp2_with fail
  refine (rat_Valid _ _ _ _ _ (HV.out.on (HB0.out _ _ _))).mono ?_
  rw [HN1.out]
  rintro e w1 ⟨rfl, hb1⟩
  have HZ1 : w.heap.size + 3 ≤ w1.heap.size := by have := hb1.size; rw [HZ0.out] at this; exact this
  have HB1 : Hid (Below w.heap.size w w1) := (HB0.out _ _ _).trans (hb1.mono (by rw [HZ0.out]; omega))
  have HC1 := Lib.hid (HC.out.on hb1)
  have HCA1 := Lib.hid (HCA.out.on hb1)
  have HCB1 := Lib.hid (HCB.out.on hb1)
  clear hb1
  obtain ⟨⟨b0, b1, b2⟩, -⟩ : Cel w1 (w.heap.size + 1) (.bool (negR s)) (.slice A3 (topL s).length c3) (.slice A4 (botL s).length c4) := HCB1.out
  go_wp2_with fail
  clear b0 b1 b2
  refine (rat_Valid _ _ _ _ _ (HU.out.on HB1.out)).mono ?_
  rw [HN2.out]
  rintro e w2 ⟨rfl, hb2⟩
  have HZ2 : w.heap.size + 3 ≤ w2.heap.size := by have := hb2.size; omega
  have HB2 : Hid (Below w.heap.size w w2) := HB1.out.trans (hb2.mono (by omega))
  have HC2 := Lib.hid (HC1.out.on hb2)
  have HCA2 := Lib.hid (HCA1.out.on hb2)
  have HCB2 := Lib.hid (HCB1.out.on hb2)
  clear hb2
  obtain ⟨⟨a0, a1, a2⟩, -⟩ : Cel w2 w.heap.size (.bool (negR r)) (.slice A1 (topL r).length c1) (.slice A2 (botL r).length c2) := HCA2.out
  obtain ⟨⟨b0, b1, b2⟩, -⟩ : Cel w2 (w.heap.size + 1) (.bool (negR s)) (.slice A3 (topL s).length c3) (.slice A4 (botL s).length c4) := HCB2.out
  go_wp2_with fail
  refine (rat_times r s HR.out HS.out _ _ w2 (HV.out.on HB2.out) (HU.out.on HB2.out)).mono ?_
  rintro e w3 h3
  obtain ⟨b3, A5, n5, d5, A6, n6, d6, rfl, ho3, hb3⟩ := h3.open_
  have HO3 := Lib.hid ho3
  have HB3 := Lib.hid hb3
  have HC3 := HC2.out.on hb3
  have HC3' := Lib.hid HC3
  have HRR := Lib.hid (HC3.put3 (.bool b3) (.slice A5 n5 d5) (.slice A6 n6 d6))
  obtain ⟨⟨d0, d1, d2⟩, f0, f1, f2⟩ := HC3
  clear h3 ho3 hb3 a0 a1 a2 b0 b1 b2
  go_wp2_with fail
  obtain ⟨⟨r0, r1, r2⟩, -⟩ := HRR.out
  refine bodyPost_ret (v := .tuple #[.agg #[.bool b3, .slice A5 n5 d5, .slice A6 n6 d6], .int .i64 (okE (mulOk r s))]) (by simp only [put3] at r0 r1 r2; simp [results, Try.results32, go_sem, r0, r1, r2]) rfl ?_
  rw [HF.out.1, HF.out.2]
  exact ⟨_, rfl, HO3.out.put3 HC3'.out _ _ _, below_put3 (HB2.out.trans (HB3.out.mono (by omega))) (by omega) _ _ _⟩

theorem rat_Mul (b : Bool) (xs ys : List Int) (c : Bool) (zs ts : List Int) (v u : Value) (w : World) (hv : InR w v b xs ys) (hu : InR w u c zs ts) :
    Calls Try.prog 32 #[v, u] w (RRes w (opE mulOk b xs ys c zs ts) (opV mulOp b xs ys c zs ts)) := by
  rcases two_cases b xs ys c zs ts with ⟨h1, h⟩ | ⟨h1, h2, h⟩ | ⟨h, r, s, ⟨hr, rfl, rfl, rfl⟩, hs, rfl, rfl, rfl⟩
  · exact rat_Mul_no1 b xs ys c zs ts v u w hv hu h1 h
  · exact rat_Mul_no2 b xs ys c zs ts v u w hv hu h1 h2 h
  · exact rat_Mul_yes r s hr hs v u w hv hu

end Go.Proofs.Ytohfaoclemcfaaa
/- Contracts of Add and Mul of the reference. -/
namespace Go.Proofs.Ytohfaoclemcfaaa
open Go.ChangeShapes Go.WideShapes Go.RowKit
set_option linter.unusedVariables false
set_option maxRecDepth 100000

set_option maxHeartbeats 1600000 in
theorem ref_Mul3_no1 (b : Bool) (xs ys : List Int) (c : Bool) (zs ts : List Int) (v u : Value) (w : World) (hv : InR w v b xs ys) (hu : InR w u c zs ts) (hn1 : valR b xs ys = false) (hn : two b xs ys c zs ts = false) :
    Calls Try.prog 29 #[v, u] w (RRes w (opE mulOk b xs ys c zs ts) (opV mulOp b xs ys c zs ts)) := by
  have HN1 := Lib.hid hn1
  have HN := Lib.hid hn
  clear hn1 hn
  obtain ⟨vp, vq, rfl, h1, h2⟩ := hv
  obtain ⟨up, uq, rfl, h3, h4⟩ := hu
  obtain ⟨A1, c1, rfl, h1'⟩ := in_open h1
  obtain ⟨A2, c2, rfl, h2'⟩ := in_open h2
  obtain ⟨A3, c3, rfl, h3'⟩ := in_open h3
  obtain ⟨A4, c4, rfl, h4'⟩ := in_open h4
  have HV := Lib.hid (show InR w (.agg #[.bool b, .slice A1 xs.length c1, .slice A2 ys.length c2]) b xs ys from ⟨_, _, rfl, h1', h2'⟩)
  have HU := Lib.hid (show InR w (.agg #[.bool c, .slice A3 zs.length c3, .slice A4 ts.length c4]) c zs ts from ⟨_, _, rfl, h3', h4'⟩)
  have HC := Lib.hid (Cel.new ((w.alloc (.cells #[.bool b, .slice A1 xs.length c1, .slice A2 ys.length c2] 27)).alloc (.cells #[.bool c, .slice A3 zs.length c3, .slice A4 ts.length c4] 27)) (.bool false) (.slice none 0 0) (.slice none 0 0) 27)
  have HCA := Lib.hid (((Cel.new w (.bool b) (.slice A1 xs.length c1) (.slice A2 ys.length c2) 27).alloc (.cells #[.bool c, .slice A3 zs.length c3, .slice A4 ts.length c4] 27)).alloc (.cells #[.bool false, .slice none 0 0, .slice none 0 0] 27))
  have HCB := Lib.hid ((Cel.new (w.alloc (.cells #[.bool b, .slice A1 xs.length c1, .slice A2 ys.length c2] 27)) (.bool c) (.slice A3 zs.length c3) (.slice A4 ts.length c4) 27).alloc (.cells #[.bool false, .slice none 0 0, .slice none 0 0] 27))
  simp only [World.size_alloc] at HC HCB
  have hb0 : ∀ o1 o2 o3, Below w.heap.size w (((w.alloc o1).alloc o2).alloc o3) := fun _ _ _ => balloc (balloc (below_alloc _ _) _) _
  have hz0 : ∀ o1 o2 o3, (((w.alloc o1).alloc o2).alloc o3).heap.size = w.heap.size + 3 := fun _ _ _ => by simp
  have HB0 := Lib.hid hb0
  have HZ0 := Lib.hid hz0
  clear h1 h2 h3 h4 h1' h2' h3' h4' hb0 hz0
  go_enter Try.func29, Try.ntmps29
  go_wp2_with fail
  refine (ref_Valid3 _ _ _ _ _ (HV.out.on (HB0.out _ _ _))).mono ?_
  rw [HN1.out]
  rintro e w1 ⟨rfl, hb1⟩
  have HZ1 : w.heap.size + 3 ≤ w1.heap.size := by have := hb1.size; rw [HZ0.out] at this; exact this
  have HB1 : Hid (Below w.heap.size w w1) := (HB0.out _ _ _).trans (hb1.mono (by rw [HZ0.out]; omega))
  have HC1 := Lib.hid (HC.out.on hb1)
  have HCA1 := Lib.hid (HCA.out.on hb1)
  have HCB1 := Lib.hid (HCB.out.on hb1)
  clear hb1
  obtain ⟨⟨r0, r1, r2⟩, s0, s1, s2⟩ : Cel w1 (w.heap.size + 1 + 1) (.bool false) (.slice none 0 0) (.slice none 0 0) := HC1.out
  go_wp2_with fail
  obtain ⟨⟨z0, z1, z2⟩, -⟩ := HC1.out.put3 (.bool false) (.slice none 0 0) (.slice none 0 0)
  simp only [put3] at z0 z1 z2
  refine bodyPost_ret (v := .tuple #[.agg #[.bool false, .slice none 0 0, .slice none 0 0], .int .i64 3]) (by simp [results, Try.results29, go_sem, z0, z1, z2]) rfl ?_
  rw [opE_no HN.out]
  exact ⟨_, rfl, OutR.no (by decide), below_put3 HB1.out (g := w.heap.size + 1 + 1) (by omega) _ _ _⟩

set_option maxHeartbeats 1600000 in
theorem ref_Mul3_no2 (b : Bool) (xs ys : List Int) (c : Bool) (zs ts : List Int) (v u : Value) (w : World) (hv : InR w v b xs ys) (hu : InR w u c zs ts) (hn1 : valR b xs ys = true) (hn2 : valR c zs ts = false) (hn : two b xs ys c zs ts = false) :
    Calls Try.prog 29 #[v, u] w (RRes w (opE mulOk b xs ys c zs ts) (opV mulOp b xs ys c zs ts)) := by
  have HN1 := Lib.hid hn1
  have HN2 := Lib.hid hn2
  have HN := Lib.hid hn
  clear hn1 hn2 hn
  obtain ⟨vp, vq, rfl, h1, h2⟩ := hv
  obtain ⟨up, uq, rfl, h3, h4⟩ := hu
  obtain ⟨A1, c1, rfl, h1'⟩ := in_open h1
  obtain ⟨A2, c2, rfl, h2'⟩ := in_open h2
  obtain ⟨A3, c3, rfl, h3'⟩ := in_open h3
  obtain ⟨A4, c4, rfl, h4'⟩ := in_open h4
  have HV := Lib.hid (show InR w (.agg #[.bool b, .slice A1 xs.length c1, .slice A2 ys.length c2]) b xs ys from ⟨_, _, rfl, h1', h2'⟩)
  have HU := Lib.hid (show InR w (.agg #[.bool c, .slice A3 zs.length c3, .slice A4 ts.length c4]) c zs ts from ⟨_, _, rfl, h3', h4'⟩)
  have HC := Lib.hid (Cel.new ((w.alloc (.cells #[.bool b, .slice A1 xs.length c1, .slice A2 ys.length c2] 27)).alloc (.cells #[.bool c, .slice A3 zs.length c3, .slice A4 ts.length c4] 27)) (.bool false) (.slice none 0 0) (.slice none 0 0) 27)
  have HCA := Lib.hid (((Cel.new w (.bool b) (.slice A1 xs.length c1) (.slice A2 ys.length c2) 27).alloc (.cells #[.bool c, .slice A3 zs.length c3, .slice A4 ts.length c4] 27)).alloc (.cells #[.bool false, .slice none 0 0, .slice none 0 0] 27))
  have HCB := Lib.hid ((Cel.new (w.alloc (.cells #[.bool b, .slice A1 xs.length c1, .slice A2 ys.length c2] 27)) (.bool c) (.slice A3 zs.length c3) (.slice A4 ts.length c4) 27).alloc (.cells #[.bool false, .slice none 0 0, .slice none 0 0] 27))
  simp only [World.size_alloc] at HC HCB
  have hb0 : ∀ o1 o2 o3, Below w.heap.size w (((w.alloc o1).alloc o2).alloc o3) := fun _ _ _ => balloc (balloc (below_alloc _ _) _) _
  have hz0 : ∀ o1 o2 o3, (((w.alloc o1).alloc o2).alloc o3).heap.size = w.heap.size + 3 := fun _ _ _ => by simp
  have HB0 := Lib.hid hb0
  have HZ0 := Lib.hid hz0
  clear h1 h2 h3 h4 h1' h2' h3' h4' hb0 hz0
  go_enter Try.func29, Try.ntmps29
  go_wp2_with fail
  refine (ref_Valid3 _ _ _ _ _ (HV.out.on (HB0.out _ _ _))).mono ?_
  rw [HN1.out]
  rintro e w1 ⟨rfl, hb1⟩
  have HZ1 : w.heap.size + 3 ≤ w1.heap.size := by have := hb1.size; rw [HZ0.out] at this; exact this
  have HB1 : Hid (Below w.heap.size w w1) := (HB0.out _ _ _).trans (hb1.mono (by rw [HZ0.out]; omega))
  have HC1 := Lib.hid (HC.out.on hb1)
  have HCA1 := Lib.hid (HCA.out.on hb1)
  have HCB1 := Lib.hid (HCB.out.on hb1)
  clear hb1
  obtain ⟨⟨b0, b1, b2⟩, -⟩ : Cel w1 (w.heap.size + 1) (.bool c) (.slice A3 zs.length c3) (.slice A4 ts.length c4) := HCB1.out
  go_wp2_with fail
  clear b0 b1 b2
  refine (ref_Valid3 _ _ _ _ _ (HU.out.on HB1.out)).mono ?_
  rw [HN2.out]
  rintro e w2 ⟨rfl, hb2⟩
  have HZ2 : w.heap.size + 3 ≤ w2.heap.size := by have := hb2.size; omega
  have HB2 : Hid (Below w.heap.size w w2) := HB1.out.trans (hb2.mono (by omega))
  have HC2 := Lib.hid (HC1.out.on hb2)
  have HCA2 := Lib.hid (HCA1.out.on hb2)
  have HCB2 := Lib.hid (HCB1.out.on hb2)
  clear hb2
  obtain ⟨⟨r0, r1, r2⟩, s0, s1, s2⟩ : Cel w2 (w.heap.size + 1 + 1) (.bool false) (.slice none 0 0) (.slice none 0 0) := HC2.out
  go_wp2_with fail
  obtain ⟨⟨z0, z1, z2⟩, -⟩ := HC2.out.put3 (.bool false) (.slice none 0 0) (.slice none 0 0)
  simp only [put3] at z0 z1 z2
  refine bodyPost_ret (v := .tuple #[.agg #[.bool false, .slice none 0 0, .slice none 0 0], .int .i64 3]) (by simp [results, Try.results29, go_sem, z0, z1, z2]) rfl ?_
  rw [opE_no HN.out]
  exact ⟨_, rfl, OutR.no (by decide), below_put3 HB2.out (g := w.heap.size + 1 + 1) (by omega) _ _ _⟩

set_option maxHeartbeats 1600000 in
theorem ref_Mul3_f1 (r s : Rat) (hr : fitR r = true) (hs : fitR s = true) (v u : Value) (w : World) (hv : IsR w v r) (hu : IsR w u s) (ho1 : decide (r.num.natAbs * s.num.natAbs < big48) = false) :
    Calls Try.prog 29 #[v, u] w (RRes w (opE mulOk (negR r) (topL r) (botL r) (negR s) (topL s) (botL s)) (opV mulOp (negR r) (topL r) (botL r) (negR s) (topL s) (botL s))) := by
  have HF := Lib.hid (op_form (ok := mulOk) (f := mulOp) hr hs)
  have HN : Hid (mulOk r s = false) := by rw [Hid, mulOk_eq, prOk, ho1]; rfl
  have HO1 := Lib.hid ho1
  have BR := Lib.hid (fitR_iff.mp hr)
  have BS := Lib.hid (fitR_iff.mp hs)
  have HR := Lib.hid hr
  have HS := Lib.hid hs
  have HN1 := Lib.hid (form_val hr).1
  have HN2 := Lib.hid (form_val hs).1
  clear hr hs
  clear ho1
  obtain ⟨vp, vq, rfl, h1, h2⟩ := hv
  obtain ⟨up, uq, rfl, h3, h4⟩ := hu
  obtain ⟨A1, c1, rfl, h1'⟩ := in_open h1
  obtain ⟨A2, c2, rfl, h2'⟩ := in_open h2
  obtain ⟨A3, c3, rfl, h3'⟩ := in_open h3
  obtain ⟨A4, c4, rfl, h4'⟩ := in_open h4
  have HV := Lib.hid (show InR w (.agg #[.bool (negR r), .slice A1 (topL r).length c1, .slice A2 (botL r).length c2]) (negR r) (topL r) (botL r) from ⟨_, _, rfl, h1', h2'⟩)
  have HU := Lib.hid (show InR w (.agg #[.bool (negR s), .slice A3 (topL s).length c3, .slice A4 (botL s).length c4]) (negR s) (topL s) (botL s) from ⟨_, _, rfl, h3', h4'⟩)
  have H1 := Lib.hid h1'
  have H2 := Lib.hid h2'
  have H3 := Lib.hid h3'
  have H4 := Lib.hid h4'
  have HC := Lib.hid (Cel.new ((w.alloc (.cells #[.bool (negR r), .slice A1 (topL r).length c1, .slice A2 (botL r).length c2] 27)).alloc (.cells #[.bool (negR s), .slice A3 (topL s).length c3, .slice A4 (botL s).length c4] 27)) (.bool false) (.slice none 0 0) (.slice none 0 0) 27)
  have HCA := Lib.hid (((Cel.new w (.bool (negR r)) (.slice A1 (topL r).length c1) (.slice A2 (botL r).length c2) 27).alloc (.cells #[.bool (negR s), .slice A3 (topL s).length c3, .slice A4 (botL s).length c4] 27)).alloc (.cells #[.bool false, .slice none 0 0, .slice none 0 0] 27))
  have HCB := Lib.hid ((Cel.new (w.alloc (.cells #[.bool (negR r), .slice A1 (topL r).length c1, .slice A2 (botL r).length c2] 27)) (.bool (negR s)) (.slice A3 (topL s).length c3) (.slice A4 (botL s).length c4) 27).alloc (.cells #[.bool false, .slice none 0 0, .slice none 0 0] 27))
  simp only [World.size_alloc] at HC HCB
  have hb0 : ∀ o1 o2 o3, Below w.heap.size w (((w.alloc o1).alloc o2).alloc o3) := fun _ _ _ => balloc (balloc (below_alloc _ _) _) _
  have hz0 : ∀ o1 o2 o3, (((w.alloc o1).alloc o2).alloc o3).heap.size = w.heap.size + 3 := fun _ _ _ => by simp
  have HB0 := Lib.hid hb0
  have HZ0 := Lib.hid hz0
  clear h1 h2 h3 h4 h1' h2' h3' h4' hb0 hz0
  go_enter Try.func29, Try.ntmps29
  go_wp2_with fail
  refine (ref_Valid3 _ _ _ _ _ (HV.out.on (HB0.out _ _ _))).mono ?_
  rw [HN1.out]
  rintro e w1 ⟨rfl, hb1⟩
  have HZ1 : w.heap.size + 3 ≤ w1.heap.size := by have := hb1.size; rw [HZ0.out] at this; exact this
  have HB1 : Hid (Below w.heap.size w w1) := (HB0.out _ _ _).trans (hb1.mono (by rw [HZ0.out]; omega))
  have HC1 := Lib.hid (HC.out.on hb1)
  have HCA1 := Lib.hid (HCA.out.on hb1)
  have HCB1 := Lib.hid (HCB.out.on hb1)
  clear hb1
  obtain ⟨⟨b0, b1, b2⟩, -⟩ : Cel w1 (w.heap.size + 1) (.bool (negR s)) (.slice A3 (topL s).length c3) (.slice A4 (botL s).length c4) := HCB1.out
  go_wp2_with fail
  clear b0 b1 b2
  refine (ref_Valid3 _ _ _ _ _ (HU.out.on HB1.out)).mono ?_
  rw [HN2.out]
  rintro e w2 ⟨rfl, hb2⟩
  have HZ2 : w.heap.size + 3 ≤ w2.heap.size := by have := hb2.size; omega
  have HB2 : Hid (Below w.heap.size w w2) := HB1.out.trans (hb2.mono (by omega))
  have HC2 := Lib.hid (HC1.out.on hb2)
  have HCA2 := Lib.hid (HCA1.out.on hb2)
  have HCB2 := Lib.hid (HCB1.out.on hb2)
  clear hb2
  obtain ⟨⟨a0, a1, a2⟩, -⟩ : Cel w2 w.heap.size (.bool (negR r)) (.slice A1 (topL r).length c1) (.slice A2 (botL r).length c2) := HCA2.out
  obtain ⟨⟨b0, b1, b2⟩, -⟩ : Cel w2 (w.heap.size + 1) (.bool (negR s)) (.slice A3 (topL s).length c3) (.slice A4 (botL s).length c4) := HCB2.out
  go_wp2_with fail
  clear a0 a1 a2 b0 b1 b2
  refine (ref_Mul_in r.num.natAbs s.num.natAbs _ _ w2 (H1.out.on HB2.out) (H3.out.on HB2.out) BR.out.1 BS.out.1).mono ?_
  rw [HO1.out]
  rintro e w3 ⟨p, rfl, hv, hb⟩
  have pS3 := Lib.hid hv.toIn
  clear hv
  have HZ3 : w.heap.size + 3 ≤ w3.heap.size := by have := hb.size; omega
  have HB3 : Hid (Below w.heap.size w w3) := HB2.out.trans (hb.mono (by omega))
  have HC3 := Lib.hid (HC2.out.on hb)
  have HCA3 := Lib.hid (HCA2.out.on hb)
  have HCB3 := Lib.hid (HCB2.out.on hb)
  clear hb
  unfold okE
  obtain ⟨⟨a0, a1, a2⟩, -⟩ : Cel w3 w.heap.size (.bool (negR r)) (.slice A1 (topL r).length c1) (.slice A2 (botL r).length c2) := HCA3.out
  obtain ⟨⟨b0, b1, b2⟩, -⟩ : Cel w3 (w.heap.size + 1) (.bool (negR s)) (.slice A3 (topL s).length c3) (.slice A4 (botL s).length c4) := HCB3.out
  go_wp2_with fail
  clear a0 a1 a2 b0 b1 b2
  refine (ref_Mul_in r.den s.den _ _ w3 (H2.out.on HB3.out) (H4.out.on HB3.out) BR.out.2 BS.out.2).mono ?_
  rintro e w4 ⟨q, rfl, hv, hb⟩
  have qS4 := Lib.hid hv.toIn
  clear hv
  have HZ4 : w.heap.size + 3 ≤ w4.heap.size := by have := hb.size; omega
  have HB4 : Hid (Below w.heap.size w w4) := HB3.out.trans (hb.mono (by omega))
  have HC4 := Lib.hid (HC3.out.on hb)
  have HCA4 := Lib.hid (HCA3.out.on hb)
  have HCB4 := Lib.hid (HCB3.out.on hb)
  have pS4 := Lib.hid (pS3.out.on hb)
  clear hb
  obtain ⟨⟨r0, r1, r2⟩, s0, s1, s2⟩ : Cel w4 (w.heap.size + 1 + 1) (.bool false) (.slice none 0 0) (.slice none 0 0) := HC4.out
  go_wp2_with fail
  obtain ⟨⟨z0, z1, z2⟩, -⟩ := HC4.out.put3 (.bool false) (.slice none 0 0) (.slice none 0 0)
  simp only [put3] at z0 z1 z2
  refine bodyPost_ret (v := .tuple #[.agg #[.bool false, .slice none 0 0, .slice none 0 0], .int .i64 2]) (by simp [results, Try.results29, go_sem, z0, z1, z2]) rfl ?_
  rw [HF.out.1, HF.out.2, HN.out]
  exact ⟨_, rfl, OutR.no (by decide), below_put3 HB4.out (g := w.heap.size + 1 + 1) (by omega) _ _ _⟩

set_option maxHeartbeats 1600000 in
theorem ref_Mul3_f2 (r s : Rat) (hr : fitR r = true) (hs : fitR s = true) (v u : Value) (w : World) (hv : IsR w v r) (hu : IsR w u s) (ho1 : decide (r.num.natAbs * s.num.natAbs < big48) = true) (ho2 : decide (r.den * s.den < big48) = false) :
    Calls Try.prog 29 #[v, u] w (RRes w (opE mulOk (negR r) (topL r) (botL r) (negR s) (topL s) (botL s)) (opV mulOp (negR r) (topL r) (botL r) (negR s) (topL s) (botL s))) := by
  have HF := Lib.hid (op_form (ok := mulOk) (f := mulOp) hr hs)
  have HN : Hid (mulOk r s = false) := by rw [Hid, mulOk_eq, prOk, ho1, ho2]; rfl
  have HO1 := Lib.hid ho1
  have HO2 := Lib.hid ho2
  have BR := Lib.hid (fitR_iff.mp hr)
  have BS := Lib.hid (fitR_iff.mp hs)
  have HR := Lib.hid hr
  have HS := Lib.hid hs
  have HN1 := Lib.hid (form_val hr).1
  have HN2 := Lib.hid (form_val hs).1
  clear hr hs
  clear ho1 ho2
  obtain ⟨vp, vq, rfl, h1, h2⟩ := hv
  obtain ⟨up, uq, rfl, h3, h4⟩ := hu
  obtain ⟨A1, c1, rfl, h1'⟩ := in_open h1
  obtain ⟨A2, c2, rfl, h2'⟩ := in_open h2
  obtain ⟨A3, c3, rfl, h3'⟩ := in_open h3
  obtain ⟨A4, c4, rfl, h4'⟩ := in_open h4
  have HV := Lib.hid (show InR w (.agg #[.bool (negR r), .slice A1 (topL r).length c1, .slice A2 (botL r).length c2]) (negR r) (topL r) (botL r) from ⟨_, _, rfl, h1', h2'⟩)
  have HU := Lib.hid (show InR w (.agg #[.bool (negR s), .slice A3 (topL s).length c3, .slice A4 (botL s).length c4]) (negR s) (topL s) (botL s) from ⟨_, _, rfl, h3', h4'⟩)
  have H1 := Lib.hid h1'
  have H2 := Lib.hid h2'
  have H3 := Lib.hid h3'
  have H4 := Lib.hid h4'
  have HC := Lib.hid (Cel.new ((w.alloc (.cells #[.bool (negR r), .slice A1 (topL r).length c1, .slice A2 (botL r).length c2] 27)).alloc (.cells #[.bool (negR s), .slice A3 (topL s).length c3, .slice A4 (botL s).length c4] 27)) (.bool false) (.slice none 0 0) (.slice none 0 0) 27)
  have HCA := Lib.hid (((Cel.new w (.bool (negR r)) (.slice A1 (topL r).length c1) (.slice A2 (botL r).length c2) 27).alloc (.cells #[.bool (negR s), .slice A3 (topL s).length c3, .slice A4 (botL s).length c4] 27)).alloc (.cells #[.bool false, .slice none 0 0, .slice none 0 0] 27))
  have HCB := Lib.hid ((Cel.new (w.alloc (.cells #[.bool (negR r), .slice A1 (topL r).length c1, .slice A2 (botL r).length c2] 27)) (.bool (negR s)) (.slice A3 (topL s).length c3) (.slice A4 (botL s).length c4) 27).alloc (.cells #[.bool false, .slice none 0 0, .slice none 0 0] 27))
  simp only [World.size_alloc] at HC HCB
  have hb0 : ∀ o1 o2 o3, Below w.heap.size w (((w.alloc o1).alloc o2).alloc o3) := fun _ _ _ => balloc (balloc (below_alloc _ _) _) _
  have hz0 : ∀ o1 o2 o3, (((w.alloc o1).alloc o2).alloc o3).heap.size = w.heap.size + 3 := fun _ _ _ => by simp
  have HB0 := Lib.hid hb0
  have HZ0 := Lib.hid hz0
  clear h1 h2 h3 h4 h1' h2' h3' h4' hb0 hz0
  go_enter Try.func29, Try.ntmps29
  go_wp2_with fail
  refine (ref_Valid3 _ _ _ _ _ (HV.out.on (HB0.out _ _ _))).mono ?_
  rw [HN1.out]
  rintro e w1 ⟨rfl, hb1⟩
  have HZ1 : w.heap.size + 3 ≤ w1.heap.size := by have := hb1.size; rw [HZ0.out] at this; exact this
  have HB1 : Hid (Below w.heap.size w w1) := (HB0.out _ _ _).trans (hb1.mono (by rw [HZ0.out]; omega))
  have HC1 := Lib.hid (HC.out.on hb1)
  have HCA1 := Lib.hid (HCA.out.on hb1)
  have HCB1 := Lib.hid (HCB.out.on hb1)
  clear hb1
  obtain ⟨⟨b0, b1, b2⟩, -⟩ : Cel w1 (w.heap.size + 1) (.bool (negR s)) (.slice A3 (topL s).length c3) (.slice A4 (botL s).length c4) := HCB1.out
  go_wp2_with fail
  clear b0 b1 b2
  refine (ref_Valid3 _ _ _ _ _ (HU.out.on HB1.out)).mono ?_
  rw [HN2.out]
  rintro e w2 ⟨rfl, hb2⟩
  have HZ2 : w.heap.size + 3 ≤ w2.heap.size := by have := hb2.size; omega
  have HB2 : Hid (Below w.heap.size w w2) := HB1.out.trans (hb2.mono (by omega))
  have HC2 := Lib.hid (HC1.out.on hb2)
  have HCA2 := Lib.hid (HCA1.out.on hb2)
  have HCB2 := Lib.hid (HCB1.out.on hb2)
  clear hb2
  obtain ⟨⟨a0, a1, a2⟩, -⟩ : Cel w2 w.heap.size (.bool (negR r)) (.slice A1 (topL r).length c1) (.slice A2 (botL r).length c2) := HCA2.out
  obtain ⟨⟨b0, b1, b2⟩, -⟩ : Cel w2 (w.heap.size + 1) (.bool (negR s)) (.slice A3 (topL s).length c3) (.slice A4 (botL s).length c4) := HCB2.out
  go_wp2_with fail
  clear a0 a1 a2 b0 b1 b2
  refine (ref_Mul_in r.num.natAbs s.num.natAbs _ _ w2 (H1.out.on HB2.out) (H3.out.on HB2.out) BR.out.1 BS.out.1).mono ?_
  rw [HO1.out]
  rintro e w3 ⟨p, rfl, hv, hb⟩
  have pS3 := Lib.hid hv.toIn
  clear hv
  have HZ3 : w.heap.size + 3 ≤ w3.heap.size := by have := hb.size; omega
  have HB3 : Hid (Below w.heap.size w w3) := HB2.out.trans (hb.mono (by omega))
  have HC3 := Lib.hid (HC2.out.on hb)
  have HCA3 := Lib.hid (HCA2.out.on hb)
  have HCB3 := Lib.hid (HCB2.out.on hb)
  clear hb
  unfold okE
  obtain ⟨⟨a0, a1, a2⟩, -⟩ : Cel w3 w.heap.size (.bool (negR r)) (.slice A1 (topL r).length c1) (.slice A2 (botL r).length c2) := HCA3.out
  obtain ⟨⟨b0, b1, b2⟩, -⟩ : Cel w3 (w.heap.size + 1) (.bool (negR s)) (.slice A3 (topL s).length c3) (.slice A4 (botL s).length c4) := HCB3.out
  go_wp2_with fail
  clear a0 a1 a2 b0 b1 b2
  refine (ref_Mul_in r.den s.den _ _ w3 (H2.out.on HB3.out) (H4.out.on HB3.out) BR.out.2 BS.out.2).mono ?_
  rw [HO2.out]
  rintro e w4 ⟨q, rfl, hv, hb⟩
  have qS4 := Lib.hid hv.toIn
  clear hv
  have HZ4 : w.heap.size + 3 ≤ w4.heap.size := by have := hb.size; omega
  have HB4 : Hid (Below w.heap.size w w4) := HB3.out.trans (hb.mono (by omega))
  have HC4 := Lib.hid (HC3.out.on hb)
  have HCA4 := Lib.hid (HCA3.out.on hb)
  have HCB4 := Lib.hid (HCB3.out.on hb)
  have pS4 := Lib.hid (pS3.out.on hb)
  clear hb
  unfold okE
  obtain ⟨⟨r0, r1, r2⟩, s0, s1, s2⟩ : Cel w4 (w.heap.size + 1 + 1) (.bool false) (.slice none 0 0) (.slice none 0 0) := HC4.out
  go_wp2_with fail
  obtain ⟨⟨z0, z1, z2⟩, -⟩ := HC4.out.put3 (.bool false) (.slice none 0 0) (.slice none 0 0)
  simp only [put3] at z0 z1 z2
  refine bodyPost_ret (v := .tuple #[.agg #[.bool false, .slice none 0 0, .slice none 0 0], .int .i64 2]) (by simp [results, Try.results29, go_sem, z0, z1, z2]) rfl ?_
  rw [HF.out.1, HF.out.2, HN.out]
  exact ⟨_, rfl, OutR.no (by decide), below_put3 HB4.out (g := w.heap.size + 1 + 1) (by omega) _ _ _⟩

set_option maxHeartbeats 1600000 in
theorem ref_Mul3_ok (r s : Rat) (hr : fitR r = true) (hs : fitR s = true) (v u : Value) (w : World) (hv : IsR w v r) (hu : IsR w u s) (ho1 : decide (r.num.natAbs * s.num.natAbs < big48) = true) (ho2 : decide (r.den * s.den < big48) = true) :
    Calls Try.prog 29 #[v, u] w (RRes w (opE mulOk (negR r) (topL r) (botL r) (negR s) (topL s) (botL s)) (opV mulOp (negR r) (topL r) (botL r) (negR s) (topL s) (botL s))) := by
  have HF := Lib.hid (op_form (ok := mulOk) (f := mulOp) hr hs)
  have HN : Hid (mulOk r s = true) := by rw [Hid, mulOk_eq, prOk, ho1, ho2]; rfl
  have HO1 := Lib.hid ho1
  have HO2 := Lib.hid ho2
  have BR := Lib.hid (fitR_iff.mp hr)
  have BS := Lib.hid (fitR_iff.mp hs)
  have HR := Lib.hid hr
  have HS := Lib.hid hs
  have HN1 := Lib.hid (form_val hr).1
  have HN2 := Lib.hid (form_val hs).1
  clear hr hs
  clear ho1 ho2
  obtain ⟨vp, vq, rfl, h1, h2⟩ := hv
  obtain ⟨up, uq, rfl, h3, h4⟩ := hu
  obtain ⟨A1, c1, rfl, h1'⟩ := in_open h1
  obtain ⟨A2, c2, rfl, h2'⟩ := in_open h2
  obtain ⟨A3, c3, rfl, h3'⟩ := in_open h3
  obtain ⟨A4, c4, rfl, h4'⟩ := in_open h4
  have HV := Lib.hid (show InR w (.agg #[.bool (negR r), .slice A1 (topL r).length c1, .slice A2 (botL r).length c2]) (negR r) (topL r) (botL r) from ⟨_, _, rfl, h1', h2'⟩)
  have HU := Lib.hid (show InR w (.agg #[.bool (negR s), .slice A3 (topL s).length c3, .slice A4 (botL s).length c4]) (negR s) (topL s) (botL s) from ⟨_, _, rfl, h3', h4'⟩)
  have H1 := Lib.hid h1'
  have H2 := Lib.hid h2'
  have H3 := Lib.hid h3'
  have H4 := Lib.hid h4'
  have HC := Lib.hid (Cel.new ((w.alloc (.cells #[.bool (negR r), .slice A1 (topL r).length c1, .slice A2 (botL r).length c2] 27)).alloc (.cells #[.bool (negR s), .slice A3 (topL s).length c3, .slice A4 (botL s).length c4] 27)) (.bool false) (.slice none 0 0) (.slice none 0 0) 27)
  have HCA := Lib.hid (((Cel.new w (.bool (negR r)) (.slice A1 (topL r).length c1) (.slice A2 (botL r).length c2) 27).alloc (.cells #[.bool (negR s), .slice A3 (topL s).length c3, .slice A4 (botL s).length c4] 27)).alloc (.cells #[.bool false, .slice none 0 0, .slice none 0 0] 27))
  have HCB := Lib.hid ((Cel.new (w.alloc (.cells #[.bool (negR r), .slice A1 (topL r).length c1, .slice A2 (botL r).length c2] 27)) (.bool (negR s)) (.slice A3 (topL s).length c3) (.slice A4 (botL s).length c4) 27).alloc (.cells #[.bool false, .slice none 0 0, .slice none 0 0] 27))
  simp only [World.size_alloc] at HC HCB
  have hb0 : ∀ o1 o2 o3, Below w.heap.size w (((w.alloc o1).alloc o2).alloc o3) := fun _ _ _ => balloc (balloc (below_alloc _ _) _) _
  have hz0 : ∀ o1 o2 o3, (((w.alloc o1).alloc o2).alloc o3).heap.size = w.heap.size + 3 := fun _ _ _ => by simp
  have HB0 := Lib.hid hb0
  have HZ0 := Lib.hid hz0
  clear h1 h2 h3 h4 h1' h2' h3' h4' hb0 hz0
  go_enter Try.func29, Try.ntmps29
  go_wp2_with fail
  refine (ref_Valid3 _ _ _ _ _ (HV.out.on (HB0.out _ _ _))).mono ?_
  rw [HN1.out]
  rintro e w1 ⟨rfl, hb1⟩
  have HZ1 : w.heap.size + 3 ≤ w1.heap.size := by have := hb1.size; rw [HZ0.out] at this; exact this
  have HB1 : Hid (Below w.heap.size w w1) := (HB0.out _ _ _).trans (hb1.mono (by rw [HZ0.out]; omega))
  have HC1 := Lib.hid (HC.out.on hb1)
  have HCA1 := Lib.hid (HCA.out.on hb1)
  have HCB1 := Lib.hid (HCB.out.on hb1)
  clear hb1
  obtain ⟨⟨b0, b1, b2⟩, -⟩ : Cel w1 (w.heap.size + 1) (.bool (negR s)) (.slice A3 (topL s).length c3) (.slice A4 (botL s).length c4) := HCB1.out
  go_wp2_with fail
  clear b0 b1 b2
  refine (ref_Valid3 _ _ _ _ _ (HU.out.on HB1.out)).mono ?_
  rw [HN2.out]
  rintro e w2 ⟨rfl, hb2⟩
  have HZ2 : w.heap.size + 3 ≤ w2.heap.size := by have := hb2.size; omega
  have HB2 : Hid (Below w.heap.size w w2) := HB1.out.trans (hb2.mono (by omega))
  have HC2 := Lib.hid (HC1.out.on hb2)
  have HCA2 := Lib.hid (HCA1.out.on hb2)
  have HCB2 := Lib.hid (HCB1.out.on hb2)
  clear hb2
  obtain ⟨⟨a0, a1, a2⟩, -⟩ : Cel w2 w.heap.size (.bool (negR r)) (.slice A1 (topL r).length c1) (.slice A2 (botL r).length c2) := HCA2.out
  obtain ⟨⟨b0, b1, b2⟩, -⟩ : Cel w2 (w.heap.size + 1) (.bool (negR s)) (.slice A3 (topL s).length c3) (.slice A4 (botL s).length c4) := HCB2.out
  go_wp2_with fail
  clear a0 a1 a2 b0 b1 b2
  refine (ref_Mul_in r.num.natAbs s.num.natAbs _ _ w2 (H1.out.on HB2.out) (H3.out.on HB2.out) BR.out.1 BS.out.1).mono ?_
  rw [HO1.out]
  rintro e w3 ⟨p, rfl, hv, hb⟩
  have pS3 := Lib.hid hv.toIn
  clear hv
  have HZ3 : w.heap.size + 3 ≤ w3.heap.size := by have := hb.size; omega
  have HB3 : Hid (Below w.heap.size w w3) := HB2.out.trans (hb.mono (by omega))
  have HC3 := Lib.hid (HC2.out.on hb)
  have HCA3 := Lib.hid (HCA2.out.on hb)
  have HCB3 := Lib.hid (HCB2.out.on hb)
  clear hb
  unfold okE
  obtain ⟨⟨a0, a1, a2⟩, -⟩ : Cel w3 w.heap.size (.bool (negR r)) (.slice A1 (topL r).length c1) (.slice A2 (botL r).length c2) := HCA3.out
  obtain ⟨⟨b0, b1, b2⟩, -⟩ : Cel w3 (w.heap.size + 1) (.bool (negR s)) (.slice A3 (topL s).length c3) (.slice A4 (botL s).length c4) := HCB3.out
  go_wp2_with fail
  clear a0 a1 a2 b0 b1 b2
  refine (ref_Mul_in r.den s.den _ _ w3 (H2.out.on HB3.out) (H4.out.on HB3.out) BR.out.2 BS.out.2).mono ?_
  rw [HO2.out]
  rintro e w4 ⟨q, rfl, hv, hb⟩
  have qS4 := Lib.hid hv.toIn
  clear hv
  have HZ4 : w.heap.size + 3 ≤ w4.heap.size := by have := hb.size; omega
  have HB4 : Hid (Below w.heap.size w w4) := HB3.out.trans (hb.mono (by omega))
  have HC4 := Lib.hid (HC3.out.on hb)
  have HCA4 := Lib.hid (HCA3.out.on hb)
  have HCB4 := Lib.hid (HCB3.out.on hb)
  have pS4 := Lib.hid (pS3.out.on hb)
  clear hb
  unfold okE
  obtain ⟨⟨a0, a1, a2⟩, -⟩ : Cel w4 w.heap.size (.bool (negR r)) (.slice A1 (topL r).length c1) (.slice A2 (botL r).length c2) := HCA4.out
  obtain ⟨⟨b0, b1, b2⟩, -⟩ : Cel w4 (w.heap.size + 1) (.bool (negR s)) (.slice A3 (topL s).length c3) (.slice A4 (botL s).length c4) := HCB4.out
  go_wp2_with fail
  clear a0 a1 a2 b0 b1 b2
  refine (ref_Reduce (negR r != negR s) _ _ _ _ w4 pS4.out qS4.out (of_decide_eq_true HO1.out) (of_decide_eq_true HO2.out) (Nat.mul_ne_zero r.den_nz s.den_nz)).mono ?_
  rw [mul_form]
  rintro e w5 ⟨v4, rfl, h4, hb⟩
  obtain ⟨vp4, vq4, rfl, h4p, h4q⟩ := h4
  obtain ⟨P4, x4, rfl, h4p'⟩ := in_open h4p
  obtain ⟨Q4, y4, rfl, h4q'⟩ := in_open h4q
  have HP4 := Lib.hid h4p'
  have HQ4 := Lib.hid h4q'
  have HBL := Lib.hid hb
  have HC4 := HC4.out.on hb
  have HC4' := Lib.hid HC4
  have HRR := Lib.hid (HC4.put3 (.bool (negR (r * s))) (.slice P4 (topL (r * s)).length x4) (.slice Q4 (botL (r * s)).length y4))
  obtain ⟨⟨d0, d1, d2⟩, f0, f1, f2⟩ := HC4
  clear h4p h4q h4p' h4q' hb
  go_wp2_with fail
  obtain ⟨⟨r0, r1, r2⟩, -⟩ := HRR.out
  refine bodyPost_ret (v := .tuple #[.agg #[.bool (negR (r * s)), .slice P4 (topL (r * s)).length x4, .slice Q4 (botL (r * s)).length y4], .int .i64 0]) (by simp only [put3] at r0 r1 r2; simp [results, Try.results29, go_sem, r0, r1, r2]) rfl ?_
  rw [HF.out.1, HF.out.2, HN.out]
  exact ⟨_, rfl, OutR.ok ⟨_, _, rfl, HP4.out.put3 HC4'.out _ _ _, HQ4.out.put3 HC4'.out _ _ _⟩, below_put3 (HB4.out.trans (HBL.out.mono (by omega))) (by omega) _ _ _⟩

theorem ref_Mul3 (b : Bool) (xs ys : List Int) (c : Bool) (zs ts : List Int) (v u : Value) (w : World) (hv : InR w v b xs ys) (hu : InR w u c zs ts) :
    Calls Try.prog 29 #[v, u] w (RRes w (opE mulOk b xs ys c zs ts) (opV mulOp b xs ys c zs ts)) := by
  rcases two_cases b xs ys c zs ts with ⟨h1, h⟩ | ⟨h1, h2, h⟩ | ⟨h, r, s, ⟨hr, rfl, rfl, rfl⟩, hs, rfl, rfl, rfl⟩
  · exact ref_Mul3_no1 b xs ys c zs ts v u w hv hu h1 h
  · exact ref_Mul3_no2 b xs ys c zs ts v u w hv hu h1 h2 h
  · cases ho1 : decide (r.num.natAbs * s.num.natAbs < big48) with
    | false => exact ref_Mul3_f1 r s hr hs v u w hv hu ho1
    | true =>
      cases ho2 : decide (r.den * s.den < big48) with
      | false => exact ref_Mul3_f2 r s hr hs v u w hv hu ho1 ho2
      | true => exact ref_Mul3_ok r s hr hs v u w hv hu ho1 ho2
end Go.Proofs.Ytohfaoclemcfaaa
