/- Several texts in one: TankL. -/
import Derived.Test.YtgmlccjjhmhgbaaGreatPk30
import Derived.Test.YtgmlccjjhmhgbaaGreatPk32
import Derived.Test.YtgmlccjjhmhgbaaGreatPk1
/- The laws that compare with the reference: Makes, Fills, Draws, Pours, Shares (gen17/l.py). -/
namespace Go.Proofs.YtgmlccjjhmhgbaaGreat.Tank
open Go.ChangeShapes Go.WideShapes Go.RowKit Go.Lib
open Go.Proofs.YtgmlccjjhmhgbaaGreat.Mem (Cl eI Own)
open Go.Proofs.YtgmlccjjhmhgbaaGreat.Rw (glt get_lt below_alloc bstep wrap_id below_drewN below_drew drew_below)
set_option linter.unusedVariables false
set_option maxRecDepth 100000

theorem in_cl {w : World} {A : Option Addr} {n c : Nat} {zs : List Int} (h : InInts .i64 w A n c zs) : Cl eI w A zs ∧ n = zs.length ∧ n ≤ 9223372036854775807 := by
  obtain ⟨h1, h2, h3, _, h4⟩ := h
  refine ⟨h4, h1, ?_⟩
  unfold maxLen at h3; omega
theorem same_eq {cap : Int} {L : List Trip} {A B : Option Addr} {n m c d : Nat} (hn : n = L.length) (hn' : m = L.length) {w : World} (ha : Rats w A L) (hb : Rats w B L) (hm : n ≤ 9223372036854775807) :
    Calls Tryz.prog 16 #[.agg #[.int .i64 cap, .slice A n c], .agg #[.int .i64 cap, .slice B m d]] w fun e w' => e = .returned (.bool true) ∧ Below w.heap.size w w' := by
  have h := law_same cap cap L L A B n m c d hn hn' w ha hb hm (by omega)
  rw [decide_eq_true (rfl : cap = cap), decide_eq_true (rfl : L = L)] at h
  exact h
theorem rats_eq {L : List Trip} {A B : Option Addr} {n m c d : Nat} (hn : n = L.length) (hn' : m = L.length) {w : World} (ha : Rats w A L) (hb : Rats w B L) (hm : n ≤ 9223372036854775807) :
    Calls Tryz.prog 24 #[.slice A n c, .slice B m d] w fun e w' => e = .returned (.bool true) ∧ Below w.heap.size w w' := by
  have h := law_rats L L A B n m c d hn hn' w ha hb hm (by omega)
  rw [decide_eq_true (rfl : L = L)] at h
  exact h
/-- What is returned, as a form. -/
def outT (err : Int) (r : Rat) : Trip := if err = 0 then triR r else zT
theorem OutR.tri {w : World} {v : Value} {err : Int} {r : Rat} (h : OutR w v err r) : InR w v (outT err r).1 (outT err r).2.1 (outT err r).2.2 := by
  unfold OutR at h
  unfold outT
  by_cases he : err = 0
  · rw [if_pos he] at h ⊢; exact h
  · rw [if_neg he] at h ⊢; exact h
theorem Same_eq {t : Trip} {va vb : Value} {w : World} (ha : InR w va t.1 t.2.1 t.2.2) (hb : InR w vb t.1 t.2.1 t.2.2) :
    Calls Tryz.prog 19 #[va, vb] w fun e w' => e = .returned (.bool true) ∧ Below w.heap.size w w' := by
  have h := tk_Same t t va vb w ha hb
  rw [decide_eq_true (rfl : t = t)] at h
  exact h
set_option maxHeartbeats 6400000 in
theorem walk_TankFills (w : World) (cap : Int) (A : Option Addr) (c : Nat) (L : List Trip) (ha : Rats w A L) (hm : L.length ≤ 9223372036854775807) (B : Option Addr) (m d : Nat) (M : List Int) (k : InInts .i64 w B m d M) :
    Calls Tryz.prog 4 #[.agg #[.int .i64 cap, .slice A L.length c], .slice B m d] w fun e w' => e = .returned (.bool true) ∧ Below w.heap.size w w' := by
  have HA := Lib.hid ha
  have KQ := Lib.hid fun W => law_awake W
  obtain ⟨n, hn⟩ : ∃ n, n = L.length := ⟨_, rfl⟩
  rw [← hn] at hm ⊢
  have KL := Lib.hid fun (W : World) (h : Rats W A L) => law_light cap L A n c hn W h hm
  obtain ⟨li, hli⟩ : ∃ b, lightB L = b := ⟨_, rfl⟩
  rw [hli] at KL
  obtain ⟨hk1, hk2, hk3⟩ := in_cl k
  have HM := Lib.hid hk1
  have KF := Lib.hid fun (W : World) (h : Rats W A L) (j : Cl eI W B M) => p_Fill cap L A n c hn M B m d hk2 W h j hm hk3
  have KG := Lib.hid fun (W : World) (h : Rats W A L) (j : Cl eI W B M) => tk_Fill cap L A n c hn M B m d hk2 W h j hm hk3
  obtain ⟨G, hG⟩ : ∃ x, filE cap L M = x := ⟨_, rfl⟩
  obtain ⟨GC, hGC⟩ : ∃ x, filC cap L M = x := ⟨_, rfl⟩
  obtain ⟨GL, hGL⟩ : ∃ x, filL cap L M = x := ⟨_, rfl⟩
  rw [hG, hGC, hGL] at KF KG
  clear hG hGC hGL k hk1 hk2 hk3
  clear ha hn hli hm
  go_enter Tryz.func4, Tryz.ntmps4
  go_upto_region 1 with fail
  obtain ⟨w0, hw0⟩ : ∃ W, (w.alloc (.cells #[.int .i64 cap, .slice A n c] 24)) = W := ⟨_, rfl⟩
  have C0 : Hid (Rw.Cel w0 (w.heap.size) [.int .i64 cap, .slice A n c]) := hw0 ▸ (Rw.Cel.new_at _ [_, _] _ (by simp))
  have HB : Hid (Below w.heap.size w w0) := hw0 ▸ below_alloc _ _
  first | rw [hw0] | skip
  clear hw0
  obtain ⟨x0, x1⟩ := C0.out.two
  go_wp2_with fail
  refine (KL.out w0 (Rats.on HA.out HB.out)).mono ?_
  rintro e w1 ⟨rfl, hb⟩
  replace HB := Lib.hid (bstep HB.out hb)
  replace C0 := Lib.hid (C0.out.on hb)
  clear hb x0 x1
  cases li with
  | false =>
    go_wp2_with fail
    refine (KQ.out _).mono ?_
    rintro e wq ⟨rfl, hb⟩
    have HF := Lib.hid (bstep HB.out hb)
    clear hb
    go_wp2_with fail
    go_ret
    exact ⟨rfl, HF.out⟩
  | true =>
  by_cases hl : 20 < m
  · have d0 : decide ((20 : Int) < (m : Int)) = true := decide_eq_true (by omega)
    clear hl
    go_wp2_with fail
    refine (KQ.out _).mono ?_
    rintro e wq ⟨rfl, hb⟩
    have HF := Lib.hid (bstep HB.out hb)
    clear hb
    go_wp2_with fail
    go_ret
    exact ⟨rfl, HF.out⟩
  have d0 : decide ((20 : Int) < (m : Int)) = false := decide_eq_false (by omega)
  clear hl
  obtain ⟨x0, x1⟩ := C0.out.two
  go_wp2_with fail
  refine (KF.out w1 (Rats.on HA.out HB.out) (Cl.on HM.out HB.out)).mono ?_
  rintro e w2 ⟨v, rfl, hT, hb⟩
  obtain ⟨A1, c1, rfl, hl1, hr1⟩ := hT
  obtain ⟨n1, hn1⟩ : ∃ n1, n1 = GL.length := ⟨_, rfl⟩
  rw [← hn1]
  have X1 := Lib.hid hr1
  have N1 := Lib.hid (And.intro hn1 hl1)
  replace HB := Lib.hid (bstep HB.out hb)
  replace C0 := Lib.hid (C0.out.on hb)
  clear hb hn1 hl1 hr1 x0 x1
  go_upto_region 4 with fail
  obtain ⟨w3, hw⟩ : ∃ W, w2.alloc (.cells #[.int .i64 GC, .slice A1 n1 c1] 24) = W := ⟨_, rfl⟩
  obtain ⟨gCX, hg⟩ : ∃ g, w2.heap.size = g := ⟨_, rfl⟩
  have hb : Below w2.heap.size w2 w3 := hw ▸ below_alloc _ _
  have CX : Hid (Rw.Cel w3 gCX [.int .i64 GC, .slice A1 n1 c1]) := hw ▸ hg ▸ Rw.Cel.new w2 [_, _] _
  replace HB := Lib.hid (bstep HB.out hb)
  replace C0 := Lib.hid (C0.out.on hb)
  replace X1 := Lib.hid (Rats.on X1.out hb)
  rw [hw, hg]
  clear hw hg hb
  obtain ⟨x0, x1⟩ := C0.out.two
  go_wp2_with fail
  refine (KG.out w3 (Rats.on HA.out HB.out) (Cl.on HM.out HB.out)).mono ?_
  rintro e w4 ⟨v, rfl, hT, hb⟩
  obtain ⟨A2, c2, rfl, hl2, hr2⟩ := hT
  obtain ⟨n2, hn2⟩ : ∃ n2, n2 = GL.length := ⟨_, rfl⟩
  rw [← hn2]
  have X2 := Lib.hid hr2
  have N2 := Lib.hid hn2
  replace HB := Lib.hid (bstep HB.out hb)
  replace C0 := Lib.hid (C0.out.on hb)
  replace X1 := Lib.hid (Rats.on X1.out hb)
  replace CX := Lib.hid (CX.out.on hb)
  clear hb hn2 hl2 hr2 x0 x1
  go_upto_region 5 with fail
  obtain ⟨w5, hw⟩ : ∃ W, w4.alloc (.cells #[.int .i64 GC, .slice A2 n2 c2] 24) = W := ⟨_, rfl⟩
  obtain ⟨gCY, hg⟩ : ∃ g, w4.heap.size = g := ⟨_, rfl⟩
  have hb : Below w4.heap.size w4 w5 := hw ▸ below_alloc _ _
  have CY : Hid (Rw.Cel w5 gCY [.int .i64 GC, .slice A2 n2 c2]) := hw ▸ hg ▸ Rw.Cel.new w4 [_, _] _
  replace HB := Lib.hid (bstep HB.out hb)
  replace C0 := Lib.hid (C0.out.on hb)
  replace X1 := Lib.hid (Rats.on X1.out hb)
  replace CX := Lib.hid (CX.out.on hb)
  replace X2 := Lib.hid (Rats.on X2.out hb)
  rw [hw, hg]
  clear hw hg hb
  obtain ⟨x0, x1⟩ := CX.out.two
  obtain ⟨y0, y1⟩ := CY.out.two
  go_wp2_with fail
  refine (same_eq N1.out.1 N2.out X1.out X2.out (by rw [N1.out.1]; exact N1.out.2)).mono ?_
  rintro e w6 ⟨rfl, hb⟩
  replace HB := Lib.hid (bstep HB.out hb)
  replace C0 := Lib.hid (C0.out.on hb)
  replace X1 := Lib.hid (Rats.on X1.out hb)
  replace CX := Lib.hid (CX.out.on hb)
  replace X2 := Lib.hid (Rats.on X2.out hb)
  replace CY := Lib.hid (CY.out.on hb)
  clear hb x0 x1 y0 y1
  go_wp2_with fail
  refine (KQ.out _).mono ?_
  rintro e wq ⟨rfl, hb⟩
  have HF := Lib.hid (bstep HB.out hb)
  clear hb
  go_wp2_with fail
  go_ret
  exact ⟨rfl, HF.out⟩
set_option maxHeartbeats 6400000 in
theorem walk_TankDraws (w : World) (cap : Int) (A : Option Addr) (c : Nat) (L : List Trip) (ha : Rats w A L) (hm : L.length ≤ 9223372036854775807) (mass : Int) :
    Calls Tryz.prog 5 #[.agg #[.int .i64 cap, .slice A L.length c], .int .i64 mass] w fun e w' => e = .returned (.bool true) ∧ Below w.heap.size w w' := by
  have HA := Lib.hid ha
  have KQ := Lib.hid fun W => law_awake W
  obtain ⟨n, hn⟩ : ∃ n, n = L.length := ⟨_, rfl⟩
  rw [← hn] at hm ⊢
  have KL := Lib.hid fun (W : World) (h : Rats W A L) => law_light cap L A n c hn W h hm
  obtain ⟨li, hli⟩ : ∃ b, lightB L = b := ⟨_, rfl⟩
  rw [hli] at KL
  have KF := Lib.hid fun (W : World) (h : Rats W A L) => p_Draw cap L A n c hn mass W h hm
  have KG := Lib.hid fun (W : World) (h : Rats W A L) => tk_Draw cap L A n c hn mass W h hm
  obtain ⟨G, hG⟩ : ∃ x, drE cap L mass = x := ⟨_, rfl⟩
  obtain ⟨GC, hGC⟩ : ∃ x, drC cap L mass = x := ⟨_, rfl⟩
  obtain ⟨GP, hGP⟩ : ∃ x, drP cap L mass = x := ⟨_, rfl⟩
  obtain ⟨GT, hGT⟩ : ∃ x, drT cap L mass = x := ⟨_, rfl⟩
  rw [hG, hGC, hGP, hGT] at KF KG
  clear hG hGC hGP hGT
  clear ha hn hli hm
  go_enter Tryz.func5, Tryz.ntmps5
  go_upto_region 1 with fail
  obtain ⟨w0, hw0⟩ : ∃ W, (w.alloc (.cells #[.int .i64 cap, .slice A n c] 24)) = W := ⟨_, rfl⟩
  have C0 : Hid (Rw.Cel w0 (w.heap.size) [.int .i64 cap, .slice A n c]) := hw0 ▸ (Rw.Cel.new_at _ [_, _] _ (by simp))
  have HB : Hid (Below w.heap.size w w0) := hw0 ▸ below_alloc _ _
  first | rw [hw0] | skip
  clear hw0
  obtain ⟨x0, x1⟩ := C0.out.two
  go_wp2_with fail
  refine (KL.out w0 (Rats.on HA.out HB.out)).mono ?_
  rintro e w1 ⟨rfl, hb⟩
  replace HB := Lib.hid (bstep HB.out hb)
  replace C0 := Lib.hid (C0.out.on hb)
  clear hb x0 x1
  cases li with
  | false =>
    go_wp2_with fail
    refine (KQ.out _).mono ?_
    rintro e wq ⟨rfl, hb⟩
    have HF := Lib.hid (bstep HB.out hb)
    clear hb
    go_wp2_with fail
    go_ret
    exact ⟨rfl, HF.out⟩
  | true =>
  obtain ⟨x0, x1⟩ := C0.out.two
  go_wp2_with fail
  refine (KF.out w1 (Rats.on HA.out HB.out)).mono ?_
  rintro e w2 ⟨v, B1, m1, d1, rfl, hT, hk, hkm, hrt, hb⟩
  obtain ⟨A1, c1, rfl, hl1, hr1⟩ := hT
  obtain ⟨n1, hn1⟩ : ∃ n1, n1 = GP.length := ⟨_, rfl⟩
  rw [← hn1]
  have X1 := Lib.hid hr1
  have T1 := Lib.hid hrt
  have N1 := Lib.hid (And.intro (And.intro hn1 hl1) (And.intro hk hkm))
  replace HB := Lib.hid (bstep HB.out hb)
  replace C0 := Lib.hid (C0.out.on hb)
  clear hb hn1 hl1 hr1 hk hkm hrt x0 x1
  go_upto_region 4 with fail
  obtain ⟨w3, hw⟩ : ∃ W, w2.alloc (.cells #[.int .i64 GC, .slice A1 n1 c1] 24) = W := ⟨_, rfl⟩
  obtain ⟨gCX, hg⟩ : ∃ g, w2.heap.size = g := ⟨_, rfl⟩
  have hb : Below w2.heap.size w2 w3 := hw ▸ below_alloc _ _
  have CX : Hid (Rw.Cel w3 gCX [.int .i64 GC, .slice A1 n1 c1]) := hw ▸ hg ▸ Rw.Cel.new w2 [_, _] _
  replace HB := Lib.hid (bstep HB.out hb)
  replace C0 := Lib.hid (C0.out.on hb)
  replace X1 := Lib.hid (Rats.on X1.out hb)
  replace T1 := Lib.hid (Rats.on T1.out hb)
  rw [hw, hg]
  clear hw hg hb
  obtain ⟨x0, x1⟩ := C0.out.two
  go_wp2_with fail
  refine (KG.out w3 (Rats.on HA.out HB.out)).mono ?_
  rintro e w4 ⟨v, B2, m2, d2, rfl, hT, hk, hkm, hrt, hb⟩
  obtain ⟨A2, c2, rfl, hl1, hr1⟩ := hT
  obtain ⟨n2, hn1⟩ : ∃ n1, n1 = GP.length := ⟨_, rfl⟩
  rw [← hn1]
  have X2 := Lib.hid hr1
  have T2 := Lib.hid hrt
  have N2 := Lib.hid (And.intro (And.intro hn1 hl1) (And.intro hk hkm))
  replace HB := Lib.hid (bstep HB.out hb)
  replace C0 := Lib.hid (C0.out.on hb)
  replace X1 := Lib.hid (Rats.on X1.out hb)
  replace T1 := Lib.hid (Rats.on T1.out hb)
  replace CX := Lib.hid (CX.out.on hb)
  clear hb hn1 hl1 hr1 hk hkm hrt x0 x1
  go_upto_region 5 with fail
  obtain ⟨w5, hw⟩ : ∃ W, w4.alloc (.cells #[.int .i64 GC, .slice A2 n2 c2] 24) = W := ⟨_, rfl⟩
  obtain ⟨gCY, hg⟩ : ∃ g, w4.heap.size = g := ⟨_, rfl⟩
  have hb : Below w4.heap.size w4 w5 := hw ▸ below_alloc _ _
  have CY : Hid (Rw.Cel w5 gCY [.int .i64 GC, .slice A2 n2 c2]) := hw ▸ hg ▸ Rw.Cel.new w4 [_, _] _
  replace HB := Lib.hid (bstep HB.out hb)
  replace C0 := Lib.hid (C0.out.on hb)
  replace X1 := Lib.hid (Rats.on X1.out hb)
  replace T1 := Lib.hid (Rats.on T1.out hb)
  replace CX := Lib.hid (CX.out.on hb)
  replace X2 := Lib.hid (Rats.on X2.out hb)
  replace T2 := Lib.hid (Rats.on T2.out hb)
  rw [hw, hg]
  clear hw hg hb
  obtain ⟨x0, x1⟩ := CX.out.two
  obtain ⟨y0, y1⟩ := CY.out.two
  go_wp2_with fail
  refine (same_eq N1.out.1.1 N2.out.1.1 X1.out X2.out (by rw [N1.out.1.1]; exact N1.out.1.2)).mono ?_
  rintro e w6 ⟨rfl, hb⟩
  replace HB := Lib.hid (bstep HB.out hb)
  replace C0 := Lib.hid (C0.out.on hb)
  replace X1 := Lib.hid (Rats.on X1.out hb)
  replace T1 := Lib.hid (Rats.on T1.out hb)
  replace CX := Lib.hid (CX.out.on hb)
  replace X2 := Lib.hid (Rats.on X2.out hb)
  replace T2 := Lib.hid (Rats.on T2.out hb)
  replace CY := Lib.hid (CY.out.on hb)
  clear hb x0 x1 y0 y1
  go_wp2_with fail
  refine (rats_eq N1.out.2.1 N2.out.2.1 T1.out T2.out N1.out.2.2).mono ?_
  rintro e w7 ⟨rfl, hb⟩
  replace HB := Lib.hid (bstep HB.out hb)
  replace C0 := Lib.hid (C0.out.on hb)
  replace X1 := Lib.hid (Rats.on X1.out hb)
  replace T1 := Lib.hid (Rats.on T1.out hb)
  replace CX := Lib.hid (CX.out.on hb)
  replace X2 := Lib.hid (Rats.on X2.out hb)
  replace T2 := Lib.hid (Rats.on T2.out hb)
  replace CY := Lib.hid (CY.out.on hb)
  clear hb
  go_wp2_with fail
  refine (KQ.out _).mono ?_
  rintro e wq ⟨rfl, hb⟩
  have HF := Lib.hid (bstep HB.out hb)
  clear hb
  go_wp2_with fail
  go_ret
  exact ⟨rfl, HF.out⟩
set_option maxHeartbeats 6400000 in
theorem walk_TankPours (w : World) (cap : Int) (A : Option Addr) (c : Nat) (L : List Trip) (ha : Rats w A L) (hm : L.length ≤ 9223372036854775807) (cap2 : Int) (B : Option Addr) (d : Nat) (M : List Trip) (hb : Rats w B M) (hm2 : M.length ≤ 9223372036854775807) (mass : Int) :
    Calls Tryz.prog 6 #[.agg #[.int .i64 cap, .slice A L.length c], .agg #[.int .i64 cap2, .slice B M.length d], .int .i64 mass] w fun e w' => e = .returned (.bool true) ∧ Below w.heap.size w w' := by
  have HA := Lib.hid ha
  have KQ := Lib.hid fun W => law_awake W
  obtain ⟨n, hn⟩ : ∃ n, n = L.length := ⟨_, rfl⟩
  rw [← hn] at hm ⊢
  have KL := Lib.hid fun (W : World) (h : Rats W A L) => law_light cap L A n c hn W h hm
  obtain ⟨li, hli⟩ : ∃ b, lightB L = b := ⟨_, rfl⟩
  rw [hli] at KL
  have HM := Lib.hid hb
  obtain ⟨m, hn2⟩ : ∃ n, n = M.length := ⟨_, rfl⟩
  rw [← hn2] at hm2 ⊢
  have KL2 := Lib.hid fun (W : World) (h : Rats W B M) => law_light cap2 M B m d hn2 W h hm2
  obtain ⟨lj, hlj⟩ : ∃ b, lightB M = b := ⟨_, rfl⟩
  rw [hlj] at KL2
  have KF := Lib.hid fun (W : World) (h : Rats W A L) (k : Rats W B M) => p_Pour cap L A n c hn cap2 M B m d hn2 mass W h k hm hm2
  have KG := Lib.hid fun (W : World) (h : Rats W A L) (k : Rats W B M) => tk_Pour cap L A n c hn cap2 M B m d hn2 mass W h k hm hm2
  obtain ⟨G, hG⟩ : ∃ x, poE cap L cap2 M mass = x := ⟨_, rfl⟩
  obtain ⟨GA, hGA⟩ : ∃ x, poC cap L cap2 M mass cap = x := ⟨_, rfl⟩
  obtain ⟨GB, hGB⟩ : ∃ x, poC cap L cap2 M mass cap2 = x := ⟨_, rfl⟩
  obtain ⟨GX, hGX⟩ : ∃ x, poX cap L cap2 M mass = x := ⟨_, rfl⟩
  obtain ⟨GY, hGY⟩ : ∃ x, poY cap L cap2 M mass = x := ⟨_, rfl⟩
  rw [hG, hGA, hGB, hGX, hGY] at KF KG
  clear hG hGA hGB hGX hGY hb hn2 hlj hm2
  clear ha hn hli hm
  go_enter Tryz.func6, Tryz.ntmps6
  go_upto_region 1 with fail
  obtain ⟨w0, hw0⟩ : ∃ W, ((w.alloc (.cells #[.int .i64 cap, .slice A n c] 24)).alloc (.cells #[.int .i64 cap2, .slice B m d] 24)) = W := ⟨_, rfl⟩
  have C0 : Hid (Rw.Cel w0 (w.heap.size) [.int .i64 cap, .slice A n c]) := hw0 ▸ (Rw.Cel.new_at _ [_, _] _ (by simp)).alloc _
  have C1 : Hid (Rw.Cel w0 (w.heap.size + 1) [.int .i64 cap2, .slice B m d]) := hw0 ▸ (Rw.Cel.new_at _ [_, _] _ (by simp))
  have HB : Hid (Below w.heap.size w w0) := hw0 ▸ bstep (below_alloc _ _) (below_alloc _ _)
  first | rw [hw0] | skip
  clear hw0
  obtain ⟨x0, x1⟩ := C0.out.two
  go_wp2_with fail
  refine (KL.out w0 (Rats.on HA.out HB.out)).mono ?_
  rintro e w1 ⟨rfl, hb⟩
  replace HB := Lib.hid (bstep HB.out hb)
  replace C0 := Lib.hid (C0.out.on hb)
  replace C1 := Lib.hid (C1.out.on hb)
  clear hb x0 x1
  cases li with
  | false =>
    go_wp2_with fail
    refine (KQ.out _).mono ?_
    rintro e wq ⟨rfl, hb⟩
    have HF := Lib.hid (bstep HB.out hb)
    clear hb
    go_wp2_with fail
    go_ret
    exact ⟨rfl, HF.out⟩
  | true =>
  obtain ⟨x0, x1⟩ := C1.out.two
  go_wp2_with fail
  refine (KL2.out w1 (Rats.on HM.out HB.out)).mono ?_
  rintro e w2 ⟨rfl, hb⟩
  replace HB := Lib.hid (bstep HB.out hb)
  replace C0 := Lib.hid (C0.out.on hb)
  replace C1 := Lib.hid (C1.out.on hb)
  clear hb x0 x1
  cases lj with
  | false =>
    go_wp2_with fail
    refine (KQ.out _).mono ?_
    rintro e wq ⟨rfl, hb⟩
    have HF := Lib.hid (bstep HB.out hb)
    clear hb
    go_wp2_with fail
    go_ret
    exact ⟨rfl, HF.out⟩
  | true =>
  obtain ⟨x0, x1⟩ := C0.out.two
  obtain ⟨y0, y1⟩ := C1.out.two
  go_wp2_with fail
  refine (KF.out w2 (Rats.on HA.out HB.out) (Rats.on HM.out HB.out)).mono ?_
  rintro e w3 ⟨v, u, rfl, hT, hU, hb⟩
  obtain ⟨A1, c1, rfl, hl1, hr1⟩ := hT
  obtain ⟨B1, d1, rfl, hl2, hr2⟩ := hU
  obtain ⟨n1, hn1⟩ : ∃ n1, n1 = GX.length := ⟨_, rfl⟩
  obtain ⟨m1, hn2⟩ : ∃ n1, n1 = GY.length := ⟨_, rfl⟩
  rw [← hn1, ← hn2]
  have X1 := Lib.hid hr1
  have Y1 := Lib.hid hr2
  have N1 := Lib.hid (And.intro (And.intro hn1 hl1) (And.intro hn2 hl2))
  replace HB := Lib.hid (bstep HB.out hb)
  replace C0 := Lib.hid (C0.out.on hb)
  replace C1 := Lib.hid (C1.out.on hb)
  clear hb hn1 hl1 hr1 hn2 hl2 hr2 x0 x1 y0 y1
  go_upto_region 4 with fail
  obtain ⟨w4, hw⟩ : ∃ W, (w3.alloc (.cells #[.int .i64 GA, .slice A1 n1 c1] 24)).alloc (.cells #[.int .i64 GB, .slice B1 m1 d1] 24) = W := ⟨_, rfl⟩
  obtain ⟨gCX, hg⟩ : ∃ g, w3.heap.size = g := ⟨_, rfl⟩
  have hb : Below w3.heap.size w3 w4 := hw ▸ bstep (below_alloc _ _) (below_alloc _ _)
  have CX : Hid (Rw.Cel w4 gCX [.int .i64 GA, .slice A1 n1 c1]) := hw ▸ hg ▸ (Rw.Cel.new w3 [_, _] _).alloc _
  have CY : Hid (Rw.Cel w4 (gCX + 1) [.int .i64 GB, .slice B1 m1 d1]) := hw ▸ hg ▸ Rw.Cel.new_at _ [_, _] _ (by simp)
  replace HB := Lib.hid (bstep HB.out hb)
  replace C0 := Lib.hid (C0.out.on hb)
  replace C1 := Lib.hid (C1.out.on hb)
  replace X1 := Lib.hid (Rats.on X1.out hb)
  replace Y1 := Lib.hid (Rats.on Y1.out hb)
  rw [hg, hw]
  clear hw hg hb
  obtain ⟨x0, x1⟩ := C0.out.two
  obtain ⟨y0, y1⟩ := C1.out.two
  go_wp2_with fail
  refine (KG.out w4 (Rats.on HA.out HB.out) (Rats.on HM.out HB.out)).mono ?_
  rintro e w5 ⟨v, u, rfl, hT, hU, hb⟩
  obtain ⟨A2, c2, rfl, hl1, hr1⟩ := hT
  obtain ⟨B2, d2, rfl, hl2, hr2⟩ := hU
  obtain ⟨n2, hn1⟩ : ∃ n1, n1 = GX.length := ⟨_, rfl⟩
  obtain ⟨m2, hn2⟩ : ∃ n1, n1 = GY.length := ⟨_, rfl⟩
  rw [← hn1, ← hn2]
  have X2 := Lib.hid hr1
  have Y2 := Lib.hid hr2
  have N2 := Lib.hid (And.intro (And.intro hn1 hl1) (And.intro hn2 hl2))
  replace HB := Lib.hid (bstep HB.out hb)
  replace C0 := Lib.hid (C0.out.on hb)
  replace C1 := Lib.hid (C1.out.on hb)
  replace X1 := Lib.hid (Rats.on X1.out hb)
  replace Y1 := Lib.hid (Rats.on Y1.out hb)
  replace CX := Lib.hid (CX.out.on hb)
  replace CY := Lib.hid (CY.out.on hb)
  clear hb hn1 hl1 hr1 hn2 hl2 hr2 x0 x1 y0 y1
  go_upto_region 5 with fail
  obtain ⟨w6, hw⟩ : ∃ W, (w5.alloc (.cells #[.int .i64 GA, .slice A2 n2 c2] 24)).alloc (.cells #[.int .i64 GB, .slice B2 m2 d2] 24) = W := ⟨_, rfl⟩
  obtain ⟨gDX, hg⟩ : ∃ g, w5.heap.size = g := ⟨_, rfl⟩
  have hb : Below w5.heap.size w5 w6 := hw ▸ bstep (below_alloc _ _) (below_alloc _ _)
  have DX : Hid (Rw.Cel w6 gDX [.int .i64 GA, .slice A2 n2 c2]) := hw ▸ hg ▸ (Rw.Cel.new w5 [_, _] _).alloc _
  have DY : Hid (Rw.Cel w6 (gDX + 1) [.int .i64 GB, .slice B2 m2 d2]) := hw ▸ hg ▸ Rw.Cel.new_at _ [_, _] _ (by simp)
  replace HB := Lib.hid (bstep HB.out hb)
  replace C0 := Lib.hid (C0.out.on hb)
  replace C1 := Lib.hid (C1.out.on hb)
  replace X1 := Lib.hid (Rats.on X1.out hb)
  replace Y1 := Lib.hid (Rats.on Y1.out hb)
  replace CX := Lib.hid (CX.out.on hb)
  replace CY := Lib.hid (CY.out.on hb)
  replace X2 := Lib.hid (Rats.on X2.out hb)
  replace Y2 := Lib.hid (Rats.on Y2.out hb)
  rw [hg, hw]
  clear hw hg hb
  obtain ⟨x0, x1⟩ := CX.out.two
  obtain ⟨y0, y1⟩ := DX.out.two
  go_wp2_with fail
  refine (same_eq N1.out.1.1 N2.out.1.1 X1.out X2.out (by rw [N1.out.1.1]; exact N1.out.1.2)).mono ?_
  rintro e w7 ⟨rfl, hb⟩
  replace HB := Lib.hid (bstep HB.out hb)
  replace C0 := Lib.hid (C0.out.on hb)
  replace C1 := Lib.hid (C1.out.on hb)
  replace X1 := Lib.hid (Rats.on X1.out hb)
  replace Y1 := Lib.hid (Rats.on Y1.out hb)
  replace CX := Lib.hid (CX.out.on hb)
  replace CY := Lib.hid (CY.out.on hb)
  replace X2 := Lib.hid (Rats.on X2.out hb)
  replace Y2 := Lib.hid (Rats.on Y2.out hb)
  replace DX := Lib.hid (DX.out.on hb)
  replace DY := Lib.hid (DY.out.on hb)
  clear hb x0 x1 y0 y1
  obtain ⟨x0, x1⟩ := CY.out.two
  obtain ⟨y0, y1⟩ := DY.out.two
  go_wp2_with fail
  refine (same_eq N1.out.2.1 N2.out.2.1 Y1.out Y2.out (by rw [N1.out.2.1]; exact N1.out.2.2)).mono ?_
  rintro e w8 ⟨rfl, hb⟩
  replace HB := Lib.hid (bstep HB.out hb)
  replace C0 := Lib.hid (C0.out.on hb)
  replace C1 := Lib.hid (C1.out.on hb)
  replace X1 := Lib.hid (Rats.on X1.out hb)
  replace Y1 := Lib.hid (Rats.on Y1.out hb)
  replace CX := Lib.hid (CX.out.on hb)
  replace CY := Lib.hid (CY.out.on hb)
  replace X2 := Lib.hid (Rats.on X2.out hb)
  replace Y2 := Lib.hid (Rats.on Y2.out hb)
  replace DX := Lib.hid (DX.out.on hb)
  replace DY := Lib.hid (DY.out.on hb)
  clear hb x0 x1 y0 y1
  go_wp2_with fail
  refine (KQ.out _).mono ?_
  rintro e wq ⟨rfl, hb⟩
  have HF := Lib.hid (bstep HB.out hb)
  clear hb
  go_wp2_with fail
  go_ret
  exact ⟨rfl, HF.out⟩
set_option maxHeartbeats 6400000 in
theorem walk_TankShares (w : World) (cap : Int) (A : Option Addr) (c : Nat) (L : List Trip) (ha : Rats w A L) (hm : L.length ≤ 9223372036854775807) (kind : Int) :
    Calls Tryz.prog 7 #[.agg #[.int .i64 cap, .slice A L.length c], .int .i64 kind] w fun e w' => e = .returned (.bool true) ∧ Below w.heap.size w w' := by
  have HA := Lib.hid ha
  have KQ := Lib.hid fun W => law_awake W
  obtain ⟨n, hn⟩ : ∃ n, n = L.length := ⟨_, rfl⟩
  rw [← hn] at hm ⊢
  have KL := Lib.hid fun (W : World) (h : Rats W A L) => law_light cap L A n c hn W h hm
  obtain ⟨li, hli⟩ : ∃ b, lightB L = b := ⟨_, rfl⟩
  rw [hli] at KL
  have KF := Lib.hid fun (W : World) (h : Rats W A L) => p_Part cap L A n c hn kind W h hm
  have KG := Lib.hid fun (W : World) (h : Rats W A L) => tk_Part cap L A n c hn kind W h hm
  obtain ⟨G, hG⟩ : ∃ x, paE cap L kind = x := ⟨_, rfl⟩
  obtain ⟨V, hV⟩ : ∃ x, paV L kind = x := ⟨_, rfl⟩
  rw [hG, hV] at KF KG
  clear hG hV
  clear ha hn hli hm
  go_enter Tryz.func7, Tryz.ntmps7
  go_upto_region 1 with fail
  obtain ⟨w0, hw0⟩ : ∃ W, (w.alloc (.cells #[.int .i64 cap, .slice A n c] 24)) = W := ⟨_, rfl⟩
  have C0 : Hid (Rw.Cel w0 (w.heap.size) [.int .i64 cap, .slice A n c]) := hw0 ▸ (Rw.Cel.new_at _ [_, _] _ (by simp))
  have HB : Hid (Below w.heap.size w w0) := hw0 ▸ below_alloc _ _
  first | rw [hw0] | skip
  clear hw0
  obtain ⟨x0, x1⟩ := C0.out.two
  go_wp2_with fail
  refine (KL.out w0 (Rats.on HA.out HB.out)).mono ?_
  rintro e w1 ⟨rfl, hb⟩
  replace HB := Lib.hid (bstep HB.out hb)
  replace C0 := Lib.hid (C0.out.on hb)
  clear hb x0 x1
  cases li with
  | false =>
    go_wp2_with fail
    refine (KQ.out _).mono ?_
    rintro e wq ⟨rfl, hb⟩
    have HF := Lib.hid (bstep HB.out hb)
    clear hb
    go_wp2_with fail
    go_ret
    exact ⟨rfl, HF.out⟩
  | true =>
  obtain ⟨x0, x1⟩ := C0.out.two
  go_wp2_with fail
  refine (KF.out w1 (Rats.on HA.out HB.out)).mono ?_
  rintro e w2 h
  obtain ⟨b1, A1, n1, c1, B1, m1, d1, rfl, ho, hb⟩ := RRes.op h
  have V1 := Lib.hid (OutR.tri ho)
  replace HB := Lib.hid (bstep HB.out hb)
  replace C0 := Lib.hid (C0.out.on hb)
  clear h ho hb x0 x1
  go_upto_region 4 with fail
  obtain ⟨w3, hw⟩ : ∃ W, w2.alloc (.cells #[.bool b1, .slice A1 n1 c1, .slice B1 m1 d1] 33) = W := ⟨_, rfl⟩
  obtain ⟨gCX, hg⟩ : ∃ g, w2.heap.size = g := ⟨_, rfl⟩
  have hb : Below w2.heap.size w2 w3 := hw ▸ below_alloc _ _
  have CX : Hid (Rw.Cel w3 gCX [.bool b1, .slice A1 n1 c1, .slice B1 m1 d1]) := hw ▸ hg ▸ Rw.Cel.new w2 [_, _, _] _
  replace HB := Lib.hid (bstep HB.out hb)
  replace C0 := Lib.hid (C0.out.on hb)
  replace V1 := Lib.hid (V1.out.on hb)
  rw [hw, hg]
  clear hw hg hb
  obtain ⟨x0, x1⟩ := C0.out.two
  go_wp2_with fail
  refine (KG.out w3 (Rats.on HA.out HB.out)).mono ?_
  rintro e w4 h
  obtain ⟨b2, A2, n2, c2, B2, m2, d2, rfl, ho, hb⟩ := RRes.op h
  have V2 := Lib.hid (OutR.tri ho)
  replace HB := Lib.hid (bstep HB.out hb)
  replace C0 := Lib.hid (C0.out.on hb)
  replace V1 := Lib.hid (V1.out.on hb)
  replace CX := Lib.hid (CX.out.on hb)
  clear h ho hb x0 x1
  go_upto_region 5 with fail
  obtain ⟨w5, hw⟩ : ∃ W, w4.alloc (.cells #[.bool b2, .slice A2 n2 c2, .slice B2 m2 d2] 33) = W := ⟨_, rfl⟩
  obtain ⟨gCY, hg⟩ : ∃ g, w4.heap.size = g := ⟨_, rfl⟩
  have hb : Below w4.heap.size w4 w5 := hw ▸ below_alloc _ _
  have CY : Hid (Rw.Cel w5 gCY [.bool b2, .slice A2 n2 c2, .slice B2 m2 d2]) := hw ▸ hg ▸ Rw.Cel.new w4 [_, _, _] _
  replace HB := Lib.hid (bstep HB.out hb)
  replace C0 := Lib.hid (C0.out.on hb)
  replace V1 := Lib.hid (V1.out.on hb)
  replace CX := Lib.hid (CX.out.on hb)
  replace V2 := Lib.hid (V2.out.on hb)
  rw [hw, hg]
  clear hw hg hb
  obtain ⟨x0, x1, x2⟩ := CX.out.three
  obtain ⟨y0, y1, y2⟩ := CY.out.three
  go_wp2_with fail
  refine (Same_eq V1.out V2.out).mono ?_
  rintro e w6 ⟨rfl, hb⟩
  replace HB := Lib.hid (bstep HB.out hb)
  replace C0 := Lib.hid (C0.out.on hb)
  replace V1 := Lib.hid (V1.out.on hb)
  replace CX := Lib.hid (CX.out.on hb)
  replace V2 := Lib.hid (V2.out.on hb)
  replace CY := Lib.hid (CY.out.on hb)
  clear hb x0 x1 x2 y0 y1 y2
  go_wp2_with fail
  refine (KQ.out _).mono ?_
  rintro e wq ⟨rfl, hb⟩
  have HF := Lib.hid (bstep HB.out hb)
  clear hb
  go_wp2_with fail
  go_ret
  exact ⟨rfl, HF.out⟩
set_option maxHeartbeats 6400000 in
theorem walk_TankMakes (w : World) (kinds capacity : Int) (cap : Int) (A : Option Addr) (c : Nat) (L : List Trip) (ha : Rats w A L) (hm : L.length ≤ 9223372036854775807) :
    Calls Tryz.prog 3 #[.int .i64 kinds, .int .i64 capacity, .agg #[.int .i64 cap, .slice A L.length c]] w fun e w' => e = .returned (.bool true) ∧ Below w.heap.size w w' := by
  have HA := Lib.hid ha
  have KQ := Lib.hid fun W => law_awake W
  obtain ⟨n, hn⟩ : ∃ n, n = L.length := ⟨_, rfl⟩
  rw [← hn] at hm ⊢
  have KL := Lib.hid fun (W : World) (h : Rats W A L) => law_light cap L A n c hn W h hm
  obtain ⟨li, hli⟩ : ∃ b, lightB L = b := ⟨_, rfl⟩
  rw [hli] at KL
  have KF := Lib.hid fun W => p_New kinds capacity W
  have KG := Lib.hid fun W => tk_New kinds capacity W
  have KV := Lib.hid fun (W : World) (h : Rats W A L) => p_Level cap L A n c hn W h hm
  have KU := Lib.hid fun (W : World) (h : Rats W A L) => tk_Level cap L A n c hn W h hm
  have KC := Lib.hid fun (W : World) (h : Rats W A L) => p_Check cap L A n c hn W h hm
  have KD := Lib.hid fun (W : World) (h : Rats W A L) => tk_Check cap L A n c hn W h hm
  obtain ⟨G, hG⟩ : ∃ x, nwE kinds capacity = x := ⟨_, rfl⟩
  obtain ⟨GC, hGC⟩ : ∃ x, nwC kinds capacity = x := ⟨_, rfl⟩
  obtain ⟨GL, hGL⟩ : ∃ x, nwL kinds capacity = x := ⟨_, rfl⟩
  obtain ⟨E, hE⟩ : ∃ x, ckT cap L = x := ⟨_, rfl⟩
  obtain ⟨V, hV⟩ : ∃ x, sumV L = x := ⟨_, rfl⟩
  rw [hG, hGC, hGL] at KF KG
  rw [hE, hV] at KV KU
  rw [hE] at KC KD
  clear hG hGC hGL hE hV
  clear ha hn hli hm
  go_enter Tryz.func3, Tryz.ntmps3
  go_upto_region 1 with fail
  obtain ⟨w0, hw0⟩ : ∃ W, (w.alloc (.cells #[.int .i64 cap, .slice A n c] 24)) = W := ⟨_, rfl⟩
  have C0 : Hid (Rw.Cel w0 (w.heap.size) [.int .i64 cap, .slice A n c]) := hw0 ▸ (Rw.Cel.new_at _ [_, _] _ (by simp))
  have HB : Hid (Below w.heap.size w w0) := hw0 ▸ below_alloc _ _
  first | rw [hw0] | skip
  clear hw0
  obtain ⟨x0, x1⟩ := C0.out.two
  go_wp2_with fail
  refine (KL.out w0 (Rats.on HA.out HB.out)).mono ?_
  rintro e w1 ⟨rfl, hb⟩
  replace HB := Lib.hid (bstep HB.out hb)
  replace C0 := Lib.hid (C0.out.on hb)
  clear hb x0 x1
  cases li with
  | false =>
    go_wp2_with fail
    refine (KQ.out _).mono ?_
    rintro e wq ⟨rfl, hb⟩
    have HF := Lib.hid (bstep HB.out hb)
    clear hb
    go_wp2_with fail
    go_ret
    exact ⟨rfl, HF.out⟩
  | true =>
  go_wp2_with fail
  refine (KF.out w1).mono ?_
  rintro e w2 ⟨v, rfl, hT, hb⟩
  obtain ⟨A1, c1, rfl, hl1, hr1⟩ := hT
  obtain ⟨n1, hn1⟩ : ∃ n1, n1 = GL.length := ⟨_, rfl⟩
  rw [← hn1]
  have X1 := Lib.hid hr1
  have N1 := Lib.hid (And.intro hn1 hl1)
  replace HB := Lib.hid (bstep HB.out hb)
  replace C0 := Lib.hid (C0.out.on hb)
  clear hb hn1 hl1 hr1
  go_upto_region 4 with fail
  obtain ⟨w3, hw⟩ : ∃ W, w2.alloc (.cells #[.int .i64 GC, .slice A1 n1 c1] 24) = W := ⟨_, rfl⟩
  obtain ⟨gCX, hg⟩ : ∃ g, w2.heap.size = g := ⟨_, rfl⟩
  have hb : Below w2.heap.size w2 w3 := hw ▸ below_alloc _ _
  have CX : Hid (Rw.Cel w3 gCX [.int .i64 GC, .slice A1 n1 c1]) := hw ▸ hg ▸ Rw.Cel.new w2 [_, _] _
  replace HB := Lib.hid (bstep HB.out hb)
  replace C0 := Lib.hid (C0.out.on hb)
  replace X1 := Lib.hid (Rats.on X1.out hb)
  rw [hw, hg]
  clear hw hg hb
  go_wp2_with fail
  refine (KG.out w3).mono ?_
  rintro e w4 ⟨v, rfl, hT, hb⟩
  obtain ⟨A2, c2, rfl, hl1, hr1⟩ := hT
  obtain ⟨n2, hn1⟩ : ∃ n1, n1 = GL.length := ⟨_, rfl⟩
  rw [← hn1]
  have X2 := Lib.hid hr1
  have N2 := Lib.hid (And.intro hn1 hl1)
  replace HB := Lib.hid (bstep HB.out hb)
  replace C0 := Lib.hid (C0.out.on hb)
  replace X1 := Lib.hid (Rats.on X1.out hb)
  replace CX := Lib.hid (CX.out.on hb)
  clear hb hn1 hl1 hr1
  go_upto_region 5 with fail
  obtain ⟨w5, hw⟩ : ∃ W, w4.alloc (.cells #[.int .i64 GC, .slice A2 n2 c2] 24) = W := ⟨_, rfl⟩
  obtain ⟨gCY, hg⟩ : ∃ g, w4.heap.size = g := ⟨_, rfl⟩
  have hb : Below w4.heap.size w4 w5 := hw ▸ below_alloc _ _
  have CY : Hid (Rw.Cel w5 gCY [.int .i64 GC, .slice A2 n2 c2]) := hw ▸ hg ▸ Rw.Cel.new w4 [_, _] _
  replace HB := Lib.hid (bstep HB.out hb)
  replace C0 := Lib.hid (C0.out.on hb)
  replace X1 := Lib.hid (Rats.on X1.out hb)
  replace CX := Lib.hid (CX.out.on hb)
  replace X2 := Lib.hid (Rats.on X2.out hb)
  rw [hw, hg]
  clear hw hg hb
  obtain ⟨x0, x1⟩ := C0.out.two
  go_wp2_with fail
  refine (KV.out w5 (Rats.on HA.out HB.out)).mono ?_
  rintro e w6 h
  obtain ⟨b1, M1, i1, j1, B1, m1, d1, rfl, ho, hb⟩ := RRes.op h
  have V1 := Lib.hid (OutR.tri ho)
  replace HB := Lib.hid (bstep HB.out hb)
  replace C0 := Lib.hid (C0.out.on hb)
  replace X1 := Lib.hid (Rats.on X1.out hb)
  replace CX := Lib.hid (CX.out.on hb)
  replace X2 := Lib.hid (Rats.on X2.out hb)
  replace CY := Lib.hid (CY.out.on hb)
  clear h ho hb x0 x1
  go_upto_region 6 with fail
  obtain ⟨w7, hw⟩ : ∃ W, w6.alloc (.cells #[.bool b1, .slice M1 i1 j1, .slice B1 m1 d1] 33) = W := ⟨_, rfl⟩
  obtain ⟨gCV, hg⟩ : ∃ g, w6.heap.size = g := ⟨_, rfl⟩
  have hb : Below w6.heap.size w6 w7 := hw ▸ below_alloc _ _
  have CV : Hid (Rw.Cel w7 gCV [.bool b1, .slice M1 i1 j1, .slice B1 m1 d1]) := hw ▸ hg ▸ Rw.Cel.new w6 [_, _, _] _
  replace HB := Lib.hid (bstep HB.out hb)
  replace C0 := Lib.hid (C0.out.on hb)
  replace X1 := Lib.hid (Rats.on X1.out hb)
  replace CX := Lib.hid (CX.out.on hb)
  replace X2 := Lib.hid (Rats.on X2.out hb)
  replace CY := Lib.hid (CY.out.on hb)
  replace V1 := Lib.hid (V1.out.on hb)
  rw [hw, hg]
  clear hw hg hb
  obtain ⟨x0, x1⟩ := C0.out.two
  go_wp2_with fail
  refine (KU.out w7 (Rats.on HA.out HB.out)).mono ?_
  rintro e w8 h
  obtain ⟨b2, M2, i2, j2, B2, m2, d2, rfl, ho, hb⟩ := RRes.op h
  have V2 := Lib.hid (OutR.tri ho)
  replace HB := Lib.hid (bstep HB.out hb)
  replace C0 := Lib.hid (C0.out.on hb)
  replace X1 := Lib.hid (Rats.on X1.out hb)
  replace CX := Lib.hid (CX.out.on hb)
  replace X2 := Lib.hid (Rats.on X2.out hb)
  replace CY := Lib.hid (CY.out.on hb)
  replace V1 := Lib.hid (V1.out.on hb)
  replace CV := Lib.hid (CV.out.on hb)
  clear h ho hb x0 x1
  go_upto_region 7 with fail
  obtain ⟨w9, hw⟩ : ∃ W, w8.alloc (.cells #[.bool b2, .slice M2 i2 j2, .slice B2 m2 d2] 33) = W := ⟨_, rfl⟩
  obtain ⟨gCU, hg⟩ : ∃ g, w8.heap.size = g := ⟨_, rfl⟩
  have hb : Below w8.heap.size w8 w9 := hw ▸ below_alloc _ _
  have CU : Hid (Rw.Cel w9 gCU [.bool b2, .slice M2 i2 j2, .slice B2 m2 d2]) := hw ▸ hg ▸ Rw.Cel.new w8 [_, _, _] _
  replace HB := Lib.hid (bstep HB.out hb)
  replace C0 := Lib.hid (C0.out.on hb)
  replace X1 := Lib.hid (Rats.on X1.out hb)
  replace CX := Lib.hid (CX.out.on hb)
  replace X2 := Lib.hid (Rats.on X2.out hb)
  replace CY := Lib.hid (CY.out.on hb)
  replace V1 := Lib.hid (V1.out.on hb)
  replace CV := Lib.hid (CV.out.on hb)
  replace V2 := Lib.hid (V2.out.on hb)
  rw [hw, hg]
  clear hw hg hb
  have HS : Hid (∀ W, Below w9.heap.size w9 W → (W.cell? ⟨w.heap.size, 0, none⟩ = some (.int .i64 cap) ∧ W.cell? ⟨w.heap.size, 1, none⟩ = some (.slice A n c)) ∧ (W.cell? ⟨gCX, 0, none⟩ = some (.int .i64 GC) ∧ W.cell? ⟨gCX, 1, none⟩ = some (.slice A1 n1 c1)) ∧ (W.cell? ⟨gCY, 0, none⟩ = some (.int .i64 GC) ∧ W.cell? ⟨gCY, 1, none⟩ = some (.slice A2 n2 c2)) ∧ (W.cell? ⟨gCV, 0, none⟩ = some (.bool b1) ∧ W.cell? ⟨gCV, 1, none⟩ = some (.slice M1 i1 j1) ∧ W.cell? ⟨gCV, 2, none⟩ = some (.slice B1 m1 d1)) ∧ (W.cell? ⟨gCU, 0, none⟩ = some (.bool b2) ∧ W.cell? ⟨gCU, 1, none⟩ = some (.slice M2 i2 j2) ∧ W.cell? ⟨gCU, 2, none⟩ = some (.slice B2 m2 d2))) := Lib.hid fun W h => ⟨(C0.out.on h).two, (CX.out.on h).two, (CY.out.on h).two, (CV.out.on h).three, (CU.out.on h).three⟩
  have J1 := Lib.hid fun (W : World) (h : Below w9.heap.size w9 W) => same_eq (cap := GC) (c := c1) (d := c2) N1.out.1 N2.out.1 (Rats.on X1.out h) (Rats.on X2.out h) (by rw [N1.out.1]; exact N1.out.2)
  have J2 := Lib.hid fun (W : World) (h : Below w9.heap.size w9 W) => KC.out W (Rats.on HA.out (bstep HB.out h))
  have J3 := Lib.hid fun (W : World) (h : Below w9.heap.size w9 W) => KD.out W (Rats.on HA.out (bstep HB.out h))
  have J4 := Lib.hid fun (W : World) (h : Below w9.heap.size w9 W) => Same_eq (InR.on V1.out h) (InR.on V2.out h)
  obtain ⟨⟨x0, x1⟩, ⟨x2, x3⟩, ⟨x4, x5⟩, ⟨y0, y1, y2⟩, y3, y4, y5⟩ := HS.out _ (Below.refl _ _)
  go_region_held3 (fun W => (W.cell? ⟨w.heap.size, 0, none⟩ = some (.int .i64 cap) ∧ W.cell? ⟨w.heap.size, 1, none⟩ = some (.slice A n c)) ∧ (W.cell? ⟨gCX, 0, none⟩ = some (.int .i64 GC) ∧ W.cell? ⟨gCX, 1, none⟩ = some (.slice A1 n1 c1)) ∧ (W.cell? ⟨gCY, 0, none⟩ = some (.int .i64 GC) ∧ W.cell? ⟨gCY, 1, none⟩ = some (.slice A2 n2 c2)) ∧ (W.cell? ⟨gCV, 0, none⟩ = some (.bool b1) ∧ W.cell? ⟨gCV, 1, none⟩ = some (.slice M1 i1 j1) ∧ W.cell? ⟨gCV, 2, none⟩ = some (.slice B1 m1 d1)) ∧ (W.cell? ⟨gCU, 0, none⟩ = some (.bool b2) ∧ W.cell? ⟨gCU, 1, none⟩ = some (.slice M2 i2 j2) ∧ W.cell? ⟨gCU, 2, none⟩ = some (.slice B2 m2 d2)))
    (first | exact HS.out _ ((Below.refl _ _).drew) | exact HS.out _ (bstep ((Below.refl _ _).drew) d1) | exact HS.out _ (bstep (bstep ((Below.refl _ _).drew) d1) d2) | exact HS.out _ (bstep (bstep (bstep ((Below.refl _ _).drew) d1) d2) d3) | exact HS.out _ (bstep (bstep (bstep (bstep ((Below.refl _ _).drew) d1) d2) d3) d4) | exact HS.out _ (bstep (bstep (bstep (bstep (bstep ((Below.refl _ _).drew) d1) d2) d3) d4) d5))
    (first | (go_at_call 16; (with_reducible refine (J1.out _ ?_).mono ?_); (exact (Below.refl _ _).drew); rintro e v1 ⟨rfl, d1⟩) | (go_at_call 17; (with_reducible refine (J2.out _ ?_).mono ?_); (exact bstep ((Below.refl _ _).drew) d1); rintro e v2 ⟨rfl, d2⟩) | (go_at_call 18; (with_reducible refine (J3.out _ ?_).mono ?_); (exact bstep (bstep ((Below.refl _ _).drew) d1) d2); rintro e v3 ⟨rfl, d3⟩) | (go_at_call 19; (with_reducible refine (J4.out _ ?_).mono ?_); (exact bstep (bstep (bstep ((Below.refl _ _).drew) d1) d2) d3); rintro e v4 ⟨rfl, d4⟩) | (go_at_call 11; (with_reducible refine (law_awake _).mono ?_); rintro e v5 ⟨rfl, d5⟩))
  all_goals
    go_wp2_with fail
    go_ret
    exact ⟨rfl, bstep HB.out (bstep (bstep (bstep (bstep (bstep ((Below.refl _ _).drew) d1) d2) d3) d4) d5)⟩
#print axioms walk_TankMakes
#print axioms walk_TankFills
#print axioms walk_TankDraws
#print axioms walk_TankPours
#print axioms walk_TankShares
end Go.Proofs.YtgmlccjjhmhgbaaGreat.Tank
