/- Several texts in one: WetP, WetQ, WetR. -/
import Derived.Test.YtohfaoclemcfaaaPk15
/- The program: the contracts of rat at numbers that fit; Check, checkWhite. -/
namespace Go.Proofs.Ytohfaoclemcfaaa.Wet
open Go.ChangeShapes Go.WideShapes Go.RowKit Go.Lib
open Go.Proofs.Ytohfaoclemcfaaa.Rw (ret_bool ret_int bstep below_drewN below_drew drew_below below_alloc)
set_option linter.unusedVariables false
set_option maxRecDepth 100000

theorem q_Of {n : Int} (h0 : 0 ≤ n) (h1 : n ≤ 1099511627776) (w : World) : Calls Try.prog 30 #[.int .i64 n] w (RRes w 0 (mkV n 1)) := by
  have k := rat_Of n w (by omega) (by omega)
  have e : mkE n 1 = 0 := mkE_4 (inRB_iff.mpr (by omega)) (inRB_iff.mpr (by decide)) (by decide)
  rw [e] at k
  exact k
theorem q_Make {p q : Int} (h0 : 0 ≤ p) (h1 : p ≤ 1000000) (h2 : 1 ≤ q) (h3 : q ≤ 1000000) (w : World) : Calls Try.prog 31 #[.int .i64 p, .int .i64 q] w (RRes w 0 (mkV p q)) := by
  have k := rat_Make p q w (by omega) (by omega) (by omega) (by omega)
  have e : mkE p q = 0 := mkE_4 (inRB_iff.mpr (by omega)) (inRB_iff.mpr (by omega)) (by omega)
  rw [e] at k
  exact k
theorem q_Add {r s : Rat} (hr : fitR r = true) (hs : fitR s = true) (ho : sumOk r s = true) (v u : Value) (w : World) (hv : IsR w v r) (hu : IsR w u s) :
    Calls Try.prog 57 #[v, u] w (RRes w 0 (r + s)) := by
  have k := rat_Add (negR r) (topL r) (botL r) (negR s) (topL s) (botL s) v u w hv hu
  rw [(op_form (ok := sumOk) (f := addOp) hr hs).1, (op_form (ok := sumOk) (f := addOp) hr hs).2, okE_yes ho] at k
  exact k
theorem q_Mul {r s : Rat} (hr : fitR r = true) (hs : fitR s = true) (ho : mulOk r s = true) (v u : Value) (w : World) (hv : IsR w v r) (hu : IsR w u s) :
    Calls Try.prog 32 #[v, u] w (RRes w 0 (r * s)) := by
  have k := rat_Mul (negR r) (topL r) (botL r) (negR s) (topL s) (botL s) v u w hv hu
  rw [(op_form (ok := mulOk) (f := mulOp) hr hs).1, (op_form (ok := mulOk) (f := mulOp) hr hs).2, okE_yes ho] at k
  exact k
/-- What a part leaves is the other part. -/
theorem part_rest {x : Rat} {k : Int} (hk : 0 ≤ k ∧ k ≤ 1000) : x * mkV (1000 - k) 1000 = subOp x (x * mkV k 1000) := by
  have h1 := mkV_mul (p := k) (q := 1000) hk.1 (by decide)
  have h2 := mkV_mul (p := 1000 - k) (q := 1000) (by omega) (by decide)
  have e1 : ((1000 : Int) : Rat) = 1000 := rfl
  rw [Rat.intCast_sub, e1] at h2
  rw [e1] at h1
  unfold subOp
  grind
set_option maxHeartbeats 1600000 in
theorem p_Check (f r c : Int) (w : World) : Calls Try.prog 12 #[.agg #[.int .i64 f, .int .i64 r, .int .i64 c]] w fun e w' => e = .returned (.int .i64 (ckW f r c)) ∧ Below w.heap.size w w' := by
  obtain ⟨E, hE⟩ : ∃ E, ckW f r c = E := ⟨_, rfl⟩
  rw [hE]
  have HE := Lib.hid hE
  clear hE
  have hMM : MM = 1099511627776 := rfl
  go_enter Try.func12, Try.ntmps12
  go_upto_region 1 with fail
  obtain ⟨w0, hw0⟩ : ∃ W, w.alloc (.cells #[.int .i64 f, .int .i64 r, .int .i64 c] 23) = W := ⟨_, rfl⟩
  have C0 : Hid (Rw.Cel w0 w.heap.size [.int .i64 f, .int .i64 r, .int .i64 c]) := hw0 ▸ Rw.Cel.new w [_, _, _] _
  have B0 : Hid (Below w.heap.size w w0) := hw0 ▸ below_alloc _ _
  rw [hw0]
  clear hw0
  obtain ⟨x0, x1, x2⟩ := C0.out.three
  have hd : (decide (f < 0) = true ∨ (decide (f < 0) = false ∧ decide (1099511627776 < f) = true)) ∨ (decide (f < 0) = false ∧ decide (1099511627776 < f) = false) := by
    by_cases h1 : f < 0
    · exact Or.inl (Or.inl (decide_eq_true h1))
    · by_cases h2 : 1099511627776 < f
      · exact Or.inl (Or.inr ⟨decide_eq_false h1, decide_eq_true h2⟩)
      · exact Or.inr ⟨decide_eq_false h1, decide_eq_false h2⟩
  rcases hd with hd | ⟨d1, d2⟩
  · obtain rfl : E = 1 := by
      rw [← HE.out]
      refine ckW_f fun h => ?_
      rcases hd with h1 | ⟨-, h1⟩
      · have := of_decide_eq_true h1; omega
      · have := of_decide_eq_true h1; omega
    clear hMM
    rcases hd with d1 | ⟨d1, d2⟩
    all_goals
      go_wp2_with fail
      go_ret
      exact ⟨rfl, B0.out⟩
  have HF : Hid (0 ≤ f ∧ f ≤ MM) := Lib.hid (by have h1 := of_decide_eq_false d1; have h2 := of_decide_eq_false d2; omega)
  have he : (decide (r < 1) = true ∨ (decide (r < 1) = false ∧ decide (1000 < r) = true) ∨ (decide (r < 1) = false ∧ decide (1000 < r) = false ∧ decide (c < 0) = true) ∨ (decide (r < 1) = false ∧ decide (1000 < r) = false ∧ decide (c < 0) = false ∧ decide (1000 ≤ c) = true)) ∨ (decide (r < 1) = false ∧ decide (1000 < r) = false ∧ decide (c < 0) = false ∧ decide (1000 ≤ c) = false) := by
    by_cases h1 : r < 1
    · exact Or.inl (Or.inl (decide_eq_true h1))
    · by_cases h2 : 1000 < r
      · exact Or.inl (Or.inr (Or.inl ⟨decide_eq_false h1, decide_eq_true h2⟩))
      · by_cases h3 : c < 0
        · exact Or.inl (Or.inr (Or.inr (Or.inl ⟨decide_eq_false h1, decide_eq_false h2, decide_eq_true h3⟩)))
        · by_cases h4 : 1000 ≤ c
          · exact Or.inl (Or.inr (Or.inr (Or.inr ⟨decide_eq_false h1, decide_eq_false h2, decide_eq_false h3, decide_eq_true h4⟩)))
          · exact Or.inr ⟨decide_eq_false h1, decide_eq_false h2, decide_eq_false h3, decide_eq_false h4⟩
  rcases he with he | ⟨d3, d4, d5, d6⟩
  · obtain rfl : E = 18 := by
      rw [← HE.out]
      refine ckW_r HF.out fun h => ?_
      rcases he with h1 | ⟨-, h1⟩ | ⟨-, -, h1⟩ | ⟨-, -, -, h1⟩
      all_goals (have := of_decide_eq_true h1; omega)
    clear hMM
    rcases he with d3 | ⟨d3, d4⟩ | ⟨d3, d4, d5⟩ | ⟨d3, d4, d5, d6⟩
    all_goals
      go_wp2_with fail
      go_ret
      exact ⟨rfl, B0.out⟩
  obtain rfl : E = 0 := by
    rw [← HE.out]
    refine ckW_ok HF.out ?_
    have h3 := of_decide_eq_false d3
    have h4 := of_decide_eq_false d4
    have h5 := of_decide_eq_false d5
    have h6 := of_decide_eq_false d6
    omega
  clear hMM
  go_wp2_with fail
  go_ret
  exact ⟨rfl, B0.out⟩
set_option maxHeartbeats 1600000 in
theorem p_checkWhite (f r c : Int) (v : Value) (b : Bool) (xs ys : List Int) (w : World) (ha : InR w v b xs ys) : Calls Try.prog 36 #[.agg #[.int .i64 f, .int .i64 r, .int .i64 c], v] w fun e w' => e = .returned (.int .i64 (stE f r c b xs ys)) ∧ Below w.heap.size w w' := by
  have KC := Lib.hid fun (W : World) => p_Check f r c W
  have KV := Lib.hid fun (v : Value) (W : World) (h : InR W v b xs ys) => rat_Valid v b xs ys W h
  have HR0 := Lib.hid ha
  obtain ⟨vp, vq, rfl, ha, hb⟩ := ha
  obtain ⟨A, cA, rfl, ha'⟩ := in_open ha
  obtain ⟨B, d, rfl, hb'⟩ := in_open hb
  have HR := Lib.hid fun (W : World) (h : Below w.heap.size w W) => (HR0.out.on h)
  obtain ⟨T, hT⟩ : ∃ E, stE f r c b xs ys = E := ⟨_, rfl⟩
  rw [hT]
  obtain ⟨K, hK⟩ : ∃ E, ckW f r c = E := ⟨_, rfl⟩
  rw [hK] at KC
  have HT := Lib.hid hT
  have HK := Lib.hid hK
  obtain ⟨q, hq⟩ : ∃ q, valR b xs ys = q := ⟨_, rfl⟩
  rw [hq] at KV
  have HQ := Lib.hid hq
  obtain ⟨n, hn⟩ : ∃ n, xs.length = n := ⟨_, rfl⟩
  obtain ⟨m, hm⟩ : ∃ m, ys.length = m := ⟨_, rfl⟩
  rw [hn, hm] at HR
  rw [hn, hm]
  have HN := Lib.hid (And.intro hn hm)
  clear ha hb ha' hb' hT hK hq hn hm HR0
  go_enter Try.func36, Try.ntmps36
  go_upto_region 1 with fail
  obtain ⟨w0, hw0⟩ : ∃ W, (w.alloc (.cells #[.int .i64 f, .int .i64 r, .int .i64 c] 23)).alloc (.cells #[.bool b, .slice A n cA, .slice B m d] 27) = W := ⟨_, rfl⟩
  have CW : Hid (Rw.Cel w0 w.heap.size [.int .i64 f, .int .i64 r, .int .i64 c]) := hw0 ▸ (Rw.Cel.new w [_, _, _] _).alloc _
  have C0 : Hid (Rw.Cel w0 (w.heap.size + 1) [.bool b, .slice A n cA, .slice B m d]) := hw0 ▸ Rw.Cel.new_at _ [_, _, _] _ (by simp)
  have B0 : Hid (Below w.heap.size w w0) := hw0 ▸ bstep (below_alloc _ _) (below_alloc _ _)
  rw [hw0]
  clear hw0
  obtain ⟨x0, x1, x2⟩ := CW.out.three
  go_wp2_with fail
  refine (KC.out w0).mono ?_
  rintro e w1 ⟨rfl, hb⟩
  have B1 := Lib.hid (bstep B0.out hb)
  have C1 := Lib.hid (C0.out.on hb)
  clear hb x0 x1 x2 C0 B0 CW
  by_cases hz : K = 0
  rotate_left
  · obtain ⟨y1, y2⟩ := ne_zero hz
    obtain rfl : T = K := by rw [← HT.out, ← HK.out]; exact stE_ck (by rw [HK.out]; exact hz)
    go_wp2_with fail
    go_ret
    exact ⟨rfl, B1.out⟩
  subst hz
  have HE : Hid (whE b xs ys = T) := Lib.hid ((stE_wh HK.out).symm.trans HT.out)
  obtain ⟨x0, x1, x2⟩ := C1.out.three
  go_wp2_with fail
  refine (KV.out _ w1 (HR.out w1 B1.out)).mono ?_
  rintro e w2 ⟨rfl, hb⟩
  have B2 := Lib.hid (bstep B1.out hb)
  have C2 := Lib.hid (C1.out.on hb)
  clear hb x0 x1 x2 C1 B1
  obtain ⟨x0, x1, x2⟩ := C2.out.three
  cases q with
  | false =>
    obtain rfl : T = 3 := by rw [← HE.out]; exact whE_v HQ.out
    go_wp2_with fail
    go_ret
    exact ⟨rfl, B2.out⟩
  | true =>
  cases b with
  | true =>
    obtain rfl : T = 1 := by rw [← HE.out]; exact whE_n HQ.out
    go_wp2_with fail
    go_ret
    exact ⟨rfl, B2.out⟩
  | false =>
  have hd : (decide ((8 : Int) < (n : Int)) = true ∨ (decide ((8 : Int) < (n : Int)) = false ∧ decide ((8 : Int) < (m : Int)) = true)) ∨ (decide ((8 : Int) < (n : Int)) = false ∧ decide ((8 : Int) < (m : Int)) = false) := by
    by_cases h1 : 8 < n
    · exact Or.inl (Or.inl (decide_eq_true (by omega)))
    · by_cases h2 : 8 < m
      · exact Or.inl (Or.inr ⟨decide_eq_false (by omega), decide_eq_true (by omega)⟩)
      · exact Or.inr ⟨decide_eq_false (by omega), decide_eq_false (by omega)⟩
  rcases hd with hd | ⟨d1, d2⟩
  · obtain rfl : T = 32 := by
      rw [← HE.out]
      refine whE_l HQ.out ?_
      rw [HN.out.1, HN.out.2]
      rcases hd with h1 | ⟨-, h1⟩
      · have := of_decide_eq_true h1; omega
      · have := of_decide_eq_true h1; omega
    rcases hd with d1 | ⟨d1, d2⟩
    all_goals
      go_wp2_with fail
      go_ret
      exact ⟨rfl, B2.out⟩
  obtain rfl : T = 0 := by
    rw [← HE.out]
    refine whE_ok HQ.out ?_
    rw [HN.out.1, HN.out.2]
    have h1 := of_decide_eq_false d1
    have h2 := of_decide_eq_false d2
    omega
  go_wp2_with fail
  go_ret
  exact ⟨rfl, B2.out⟩
end Go.Proofs.Ytohfaoclemcfaaa.Wet
/- The program: part, begin, and what a step gives (gen20/q.py). -/
namespace Go.Proofs.Ytohfaoclemcfaaa.Wet
open Go.ChangeShapes Go.WideShapes Go.RowKit Go.Lib
open Go.Proofs.Ytohfaoclemcfaaa.Rw (ret_bool ret_int bstep below_drewN below_drew drew_below below_alloc)
set_option linter.unusedVariables false
set_option maxRecDepth 100000

theorem cel_six {w : World} {g : Nat} {u0 u1 u2 u3 u4 u5 : Value} (h : Rw.Cel w g [u0, u1, u2, u3, u4, u5]) : w.cell? ⟨g, 0, none⟩ = some u0 ∧ w.cell? ⟨g, 1, none⟩ = some u1 ∧ w.cell? ⟨g, 2, none⟩ = some u2 ∧ w.cell? ⟨g, 3, none⟩ = some u3 ∧ w.cell? ⟨g, 4, none⟩ = some u4 ∧ w.cell? ⟨g, 5, none⟩ = some u5 :=
  ⟨h.at_ 0 _ rfl, h.at_ 1 _ rfl, h.at_ 2 _ rfl, h.at_ 3 _ rfl, h.at_ 4 _ rfl, h.at_ 5 _ rfl⟩
theorem warm_six {w : World} {g : Nat} {us : List Value} (h : Rw.Cel w g us) : w.frozen? ⟨g, 0, none⟩ = false ∧ w.frozen? ⟨g, 1, none⟩ = false ∧ w.frozen? ⟨g, 2, none⟩ = false ∧ w.frozen? ⟨g, 3, none⟩ = false ∧ w.frozen? ⟨g, 4, none⟩ = false ∧ w.frozen? ⟨g, 5, none⟩ = false :=
  ⟨h.warm 0, h.warm 1, h.warm 2, h.warm 3, h.warm 4, h.warm 5⟩
theorem res_s1 {fn : Func} {p : Tmp} (h : fn.results = #[.cell p 50]) {tmps : Array Value} {w : World} {g : Nat} {u0 u1 u2 u3 u4 u5 : Value} (hp : tmps.getD p undef = .pointer (some ⟨g, 0, none⟩))
    (hc : Rw.Cel w g [u0, u1, u2, u3, u4, u5]) : (results fn tmps).run Try.prog w = .ok (.agg #[u0, u1, u2, u3, u4, u5]) w := by
  have hp' : tmps[p]?.getD undef = .pointer (some ⟨g, 0, none⟩) := by simpa using hp
  obtain ⟨h0, h1, h2, h3, h4, h5⟩ := cel_six hc
  simp [results, h, hp', go_sem, h0, h1, h2, h3, h4, h5]
/-- A step, with what is in its head box. -/
def SRet (w : World) (f r c : Int) (q : Rat) (e : Ending) (w' : World) : Prop := ∃ b A n k B m d, e = .returned (.agg #[.int .i64 f, .int .i64 r, .int .i64 c, .bool b, .slice A n k, .slice B m d]) ∧ IsR w' (.agg #[.bool b, .slice A n k, .slice B m d]) q ∧ Below w.heap.size w w'
/-- Limbs that do not end in zero do not lie in a box of zeros; a store into the box leaves them as they were. -/
theorem in_far {w W : World} {v : Value} {zs : List Int} {g : Nat} {b0 : Bool} {A0 B0 : Option Addr} {n0 k0 m0 d0 : Nat} (h : In w v zs) (hn : nrm zs = true) (hc : Rw.Cel w g [.int .i64 0, .int .i64 0, .int .i64 0, .bool b0, .slice A0 n0 k0, .slice B0 m0 d0])
    (hW : ∀ p : Addr, (∀ j, j < 6 → p ≠ ⟨g, j, none⟩) → W.cell? p = w.cell? p) (hs : W.heap.size = w.heap.size) : In W v zs := by
  obtain ⟨A, c, rfl, h1, h2, h3⟩ := h
  refine ⟨A, c, rfl, h1, h2, fun k z hz => ?_⟩
  obtain ⟨b, off, hA, hlo, hlt, hcell⟩ := h3 k z hz
  refine ⟨b, off, hA, ⟨Nat.zero_le _, Or.inl rfl⟩, by rw [hs]; exact hlt, ?_⟩
  rw [hW _ ?_]
  · exact hcell
  intro j hj e
  simp only [Addr.mk.injEq, and_true] at e
  obtain ⟨rfl, e2⟩ := e
  obtain ⟨c0, c1, c2, c3, c4, c5⟩ := cel_six hc
  have key : ∀ i, i < zs.length → ∃ z', w.cell? ⟨b, off + i, none⟩ = some (.int .i64 z') ∧ zs[i]? = some z' := fun i hi => by
    obtain ⟨b', off', hA', -, -, hc'⟩ := h3 i _ (List.getElem?_eq_getElem hi)
    rw [hA] at hA'
    cases hA'
    exact ⟨_, hc', List.getElem?_eq_getElem hi⟩
  have hk : k < zs.length := by
    rcases Nat.lt_or_ge k zs.length with h | h
    · exact h
    · rw [List.getElem?_eq_none h] at hz; cases hz
  rcases Nat.lt_or_ge j 3 with hj3 | hj3
  · rcases Nat.lt_or_ge 2 (off + (zs.length - 1)) with hl | hl
    · obtain ⟨z', hz', -⟩ := key (3 - off) (by omega)
      rw [show off + (3 - off) = 3 by omega, c3] at hz'
      cases hz'
    · obtain ⟨z', hz', hl'⟩ := key (zs.length - 1) (by omega)
      have h0 : z' = 0 := by
        have : off + (zs.length - 1) = 0 ∨ off + (zs.length - 1) = 1 ∨ off + (zs.length - 1) = 2 := by omega
        rcases this with h | h | h
        · rw [h, c0] at hz'; cases hz'; rfl
        · rw [h, c1] at hz'; cases hz'; rfl
        · rw [h, c2] at hz'; cases hz'; rfl
      have hlast : zs.getLast? = some 0 := by rw [List.getLast?_eq_getElem?, hl', h0]
      unfold nrm at hn
      rw [hlast] at hn
      simp at hn
  · have : j = 3 ∨ j = 4 ∨ j = 5 := by omega
    rw [e2] at hcell
    rcases this with rfl | rfl | rfl
    · rw [c3] at hcell; cases hcell
    · rw [c4] at hcell; cases hcell
    · rw [c5] at hcell; cases hcell
/-- A store of a step into its box. -/
theorem put_six {w : World} {g : Nat} {b0 : Bool} {A0 B0 : Option Addr} {n0 k0 m0 d0 : Nat} (h : Rw.Cel w g [.int .i64 0, .int .i64 0, .int .i64 0, .bool b0, .slice A0 n0 k0, .slice B0 m0 d0]) (f r c : Int) (b : Bool) (A B : Option Addr) (n k m d : Nat) :
    ∃ W, (((((w.setCell ⟨g, 0, none⟩ (.int .i64 f)).setCell ⟨g, 1, none⟩ (.int .i64 r)).setCell ⟨g, 2, none⟩ (.int .i64 c)).setCell ⟨g, 3, none⟩ (.bool b)).setCell ⟨g, 4, none⟩ (.slice A n k)).setCell ⟨g, 5, none⟩ (.slice B m d) = W ∧
      Rw.Cel W g [.int .i64 f, .int .i64 r, .int .i64 c, .bool b, .slice A n k, .slice B m d] ∧ (∀ v q, IsR w v q → IsR W v q) ∧ (∀ B' w0, Below B' w0 w → B' ≤ g → Below B' w0 W) ∧ W.heap.size = w.heap.size ∧ (∀ g' us, g ≠ g' → Rw.Cel w g' us → Rw.Cel W g' us) := by
  refine ⟨_, rfl, (((((h.set 0 _).set 1 _).set 2 _).set 3 _).set 4 _).set 5 _, fun v q hv => ?_, fun B' w0 hb k => ?_, by simp, fun g' us hne hc => ?_⟩
  · obtain ⟨vp, vq, e, h1, h2⟩ := hv
    have hW : ∀ p : Addr, (∀ j, j < 6 → p ≠ ⟨g, j, none⟩) → ((((((w.setCell ⟨g, 0, none⟩ (.int .i64 f)).setCell ⟨g, 1, none⟩ (.int .i64 r)).setCell ⟨g, 2, none⟩ (.int .i64 c)).setCell ⟨g, 3, none⟩ (.bool b)).setCell ⟨g, 4, none⟩ (.slice A n k)).setCell ⟨g, 5, none⟩ (.slice B m d)).cell? p = w.cell? p := fun p hp => by
      rw [World.cell?_setCell_other _ _ _ _ (hp 5 (by decide)).symm, World.cell?_setCell_other _ _ _ _ (hp 4 (by decide)).symm, World.cell?_setCell_other _ _ _ _ (hp 3 (by decide)).symm, World.cell?_setCell_other _ _ _ _ (hp 2 (by decide)).symm, World.cell?_setCell_other _ _ _ _ (hp 1 (by decide)).symm, World.cell?_setCell_other _ _ _ _ (hp 0 (by decide)).symm]
    exact ⟨vp, vq, e, in_far h1 (nrm_of_limbs _) h hW (by simp), in_far h2 (nrm_of_limbs _) h hW (by simp)⟩
  · exact (((((hb.setCell (p := ⟨g, 0, none⟩) k _).setCell (p := ⟨g, 1, none⟩) k _).setCell (p := ⟨g, 2, none⟩) k _).setCell (p := ⟨g, 3, none⟩) k _).setCell (p := ⟨g, 4, none⟩) k _).setCell (p := ⟨g, 5, none⟩) k _
  · exact (((((hc.far (p := ⟨g, 0, none⟩) hne _).far (p := ⟨g, 1, none⟩) hne _).far (p := ⟨g, 2, none⟩) hne _).far (p := ⟨g, 3, none⟩) hne _).far (p := ⟨g, 4, none⟩) hne _).far (p := ⟨g, 5, none⟩) hne _
set_option maxHeartbeats 3200000 in
theorem p_part {q : Rat} {k : Int} {B M : Nat} (hq : Fr B M q) (hB : B * 1000 < big48) (hM : M * 1000 < big48) (hk : 0 ≤ k ∧ k ≤ 1000) (v : Value) (w : World) (hv : IsR w v q) :
    Calls Try.prog 58 #[v, .int .i64 k] w (RRet w (q * mkV k 1000)) := by
  have fq := hq.fit (by omega) (by omega)
  have fk := (k_fr hk).fit big_1000 big_1000
  have mo := hq.mul_ok (k_fr hk) hM hB
  have KM := Lib.hid fun (W : World) => q_Make hk.1 (show k ≤ 1000000 by omega) (show (1 : Int) ≤ 1000 by decide) (by decide) W
  have KU := Lib.hid fun (v u : Value) (W : World) (h : IsR W v q) (h2 : IsR W u (mkV k 1000)) => q_Mul fq fk mo v u W h h2
  obtain ⟨b0, A0, n0, c0, B0, m0, d0, rfl⟩ := isR_open hv
  have R0 := Lib.hid hv
  have HB := Lib.hid (Below.refl w.heap.size w)
  obtain ⟨p, hp⟩ : ∃ p, mkV k 1000 = p := ⟨_, rfl⟩
  rw [hp] at KM KU ⊢
  clear fq fk mo hq hB hM hv hk hp
  go_enter Try.func58, Try.ntmps58
  go_upto_region 1 with fail
  obtain ⟨w1, hw⟩ : ∃ W, (w.alloc (.cells #[.bool b0, .slice A0 n0 c0, .slice B0 m0 d0] 27)).alloc (.cells #[.bool false, .slice none 0 0, .slice none 0 0] 27) = W := ⟨_, rfl⟩
  have C0 : Hid (Rw.Cel w1 w.heap.size [.bool b0, .slice A0 n0 c0, .slice B0 m0 d0]) := hw ▸ (Rw.Cel.new w [_, _, _] _).alloc _
  have C1 : Hid (Rw.Cel w1 (w.heap.size + 1) [.bool false, .slice none 0 0, .slice none 0 0]) := hw ▸ Rw.Cel.new_at _ [_, _, _] _ (by simp)
  have hb : Below w.heap.size w w1 := hw ▸ bstep (below_alloc _ _) (below_alloc _ _)
  replace HB := Lib.hid (bstep HB.out hb)
  replace R0 := Lib.hid (R0.out.on hb)
  first | rw [hw] | skip
  clear hw hb
  go_wp2_with fail
  refine (KM.out _).mono ?_
  rintro e w2 h
  obtain ⟨b1, A1, n1, c1, B1, m1, d1, rfl, ho, hb⟩ := h.open_
  replace HB := Lib.hid (bstep HB.out hb)
  replace R0 := Lib.hid (R0.out.on hb)
  replace C0 := Lib.hid (C0.out.on hb)
  replace C1 := Lib.hid (C1.out.on hb)
  have R1 := Lib.hid (out_zero ho)
  clear h ho hb
  go_upto_region 2 with fail
  obtain ⟨w3, hw⟩ : ∃ W, w2.alloc (.cells #[.bool b1, .slice A1 n1 c1, .slice B1 m1 d1] 27) = W := ⟨_, rfl⟩
  obtain ⟨gC2, hg⟩ : ∃ g, w2.heap.size = g := ⟨_, rfl⟩
  have hb : Below w2.heap.size w2 w3 := hw ▸ below_alloc _ _
  have C2 : Hid (Rw.Cel w3 gC2 [.bool b1, .slice A1 n1 c1, .slice B1 m1 d1]) := hw ▸ hg ▸ Rw.Cel.new w2 [_, _, _] _
  replace HB := Lib.hid (bstep HB.out hb)
  replace R0 := Lib.hid (R0.out.on hb)
  replace C0 := Lib.hid (C0.out.on hb)
  replace C1 := Lib.hid (C1.out.on hb)
  replace R1 := Lib.hid (R1.out.on hb)
  first | rw [hw, hg] | rw [hw]
  clear hw hg hb
  obtain ⟨x00, x01, x02⟩ := C0.out.three
  obtain ⟨x10, x11, x12⟩ := C2.out.three
  go_wp2_with fail
  refine (KU.out _ _ _ R0.out R1.out).mono ?_
  rintro e w4 h
  obtain ⟨b2, A2, n2, c2, B2, m2, d2, rfl, ho, hb⟩ := h.open_
  replace HB := Lib.hid (bstep HB.out hb)
  replace R0 := Lib.hid (R0.out.on hb)
  replace C0 := Lib.hid (C0.out.on hb)
  replace C1 := Lib.hid (C1.out.on hb)
  replace R1 := Lib.hid (R1.out.on hb)
  replace C2 := Lib.hid (C2.out.on hb)
  have R2 := Lib.hid (out_zero ho)
  clear h ho hb
  clear x00 x01 x02 x10 x11 x12
  go_upto_region 3 with fail
  obtain ⟨w5, hw⟩ : ∃ W, w4.alloc (.cells #[.bool b2, .slice A2 n2 c2, .slice B2 m2 d2] 27) = W := ⟨_, rfl⟩
  obtain ⟨gC3, hg⟩ : ∃ g, w4.heap.size = g := ⟨_, rfl⟩
  have hb : Below w4.heap.size w4 w5 := hw ▸ below_alloc _ _
  have C3 : Hid (Rw.Cel w5 gC3 [.bool b2, .slice A2 n2 c2, .slice B2 m2 d2]) := hw ▸ hg ▸ Rw.Cel.new w4 [_, _, _] _
  replace HB := Lib.hid (bstep HB.out hb)
  replace R0 := Lib.hid (R0.out.on hb)
  replace C0 := Lib.hid (C0.out.on hb)
  replace C1 := Lib.hid (C1.out.on hb)
  replace R1 := Lib.hid (R1.out.on hb)
  replace C2 := Lib.hid (C2.out.on hb)
  replace R2 := Lib.hid (R2.out.on hb)
  first | rw [hw, hg] | rw [hw]
  clear hw hg hb
  obtain ⟨x00, x01, x02⟩ := C3.out.three
  obtain ⟨x10, x11, x12⟩ := C1.out.three
  obtain ⟨v0, v1, v2⟩ := C1.out.warm3
  go_wp2_with fail
  exact bodyPost_ret (res_r1 Try.results58 rfl (C1.out.put3 _ _ _)) rfl ⟨_, _, _, _, _, _, _, rfl, InR.put3 R2.out (cel_root C1.out) _ _ _, Rw.below_put3 HB.out (Nat.le_succ _) _ _ _⟩
set_option maxHeartbeats 3200000 in
theorem p_begin {f r c : Int} {q : Rat} (hs : Stp f r c q) (hk : ckW f r c = 0) (v : Value) (w : World) (hv : IsR w v q) :
    Calls Try.prog 37 #[.agg #[.int .i64 f, .int .i64 r, .int .i64 c], v] w (SRet w f r c (hdV f q)) := by
  obtain ⟨hf, hr, hc⟩ := ckW_of hk
  have KF := Lib.hid fun (W : World) => q_Of hf.1 hf.2 W
  have KA := Lib.hid fun (v u : Value) (W : World) (h : IsR W v (mkV f 1)) (h2 : IsR W u q) => q_Add hs.ff hs.fq hs.so v u W h h2
  rw [show mkV f 1 + q = hdV f q from rfl] at KA
  obtain ⟨vF, hF⟩ : ∃ x, mkV f 1 = x := ⟨_, rfl⟩
  obtain ⟨vH, hH⟩ : ∃ x, hdV f q = x := ⟨_, rfl⟩
  rw [hF] at KF KA
  rw [hH] at KA ⊢
  obtain ⟨b0, A0, n0, c0, B0, m0, d0, rfl⟩ := isR_open hv
  have R0 := Lib.hid hv
  have HB := Lib.hid (Below.refl w.heap.size w)
  clear hs hk hf hr hc hF hH hv
  go_enter Try.func37, Try.ntmps37
  go_upto_region 1 with fail
  obtain ⟨w1, hw⟩ : ∃ W, ((w.alloc (.cells #[.int .i64 f, .int .i64 r, .int .i64 c] 23)).alloc (.cells #[.bool b0, .slice A0 n0 c0, .slice B0 m0 d0] 27)).alloc (.cells #[.int .i64 0, .int .i64 0, .int .i64 0, .bool false, .slice none 0 0, .slice none 0 0] 50) = W := ⟨_, rfl⟩
  have CW : Hid (Rw.Cel w1 w.heap.size [.int .i64 f, .int .i64 r, .int .i64 c]) := hw ▸ ((Rw.Cel.new w [_, _, _] _).alloc _).alloc _
  have CX : Hid (Rw.Cel w1 (w.heap.size + 1) [.bool b0, .slice A0 n0 c0, .slice B0 m0 d0]) := hw ▸ (Rw.Cel.new_at _ [_, _, _] _ (by simp)).alloc _
  have CZ : Hid (Rw.Cel w1 (w.heap.size + 1 + 1) [.int .i64 0, .int .i64 0, .int .i64 0, .bool false, .slice none 0 0, .slice none 0 0]) := hw ▸ Rw.Cel.new_at _ [_, _, _, _, _, _] _ (by simp)
  have hb : Below w.heap.size w w1 := hw ▸ bstep (bstep (below_alloc _ _) (below_alloc _ _)) (below_alloc _ _)
  replace HB := Lib.hid (bstep HB.out hb)
  replace R0 := Lib.hid (R0.out.on hb)
  obtain ⟨z, hz⟩ : ∃ z, w.heap.size + 1 + 1 = z := ⟨_, rfl⟩
  have HZ : Hid (w.heap.size ≤ z) := Lib.hid (by omega)
  rw [hw]
  rw [hz] at CZ ⊢
  clear hw hb hz
  obtain ⟨x00, x01, x02⟩ := CW.out.three
  go_wp2_with fail
  refine (KF.out _).mono ?_
  rintro e w2 h
  obtain ⟨b1, A1, n1, c1, B1, m1, d1, rfl, ho, hb⟩ := h.open_
  replace HB := Lib.hid (bstep HB.out hb)
  replace R0 := Lib.hid (R0.out.on hb)
  replace CW := Lib.hid (CW.out.on hb)
  replace CX := Lib.hid (CX.out.on hb)
  replace CZ := Lib.hid (CZ.out.on hb)
  have R1 := Lib.hid (out_zero ho)
  clear h ho hb
  clear x00 x01 x02
  go_upto_region 2 with fail
  obtain ⟨w3, hw⟩ : ∃ W, w2.alloc (.cells #[.bool b1, .slice A1 n1 c1, .slice B1 m1 d1] 27) = W := ⟨_, rfl⟩
  obtain ⟨gC1, hg⟩ : ∃ g, w2.heap.size = g := ⟨_, rfl⟩
  have hb : Below w2.heap.size w2 w3 := hw ▸ below_alloc _ _
  have C1 : Hid (Rw.Cel w3 gC1 [.bool b1, .slice A1 n1 c1, .slice B1 m1 d1]) := hw ▸ hg ▸ Rw.Cel.new w2 [_, _, _] _
  replace HB := Lib.hid (bstep HB.out hb)
  replace R0 := Lib.hid (R0.out.on hb)
  replace CW := Lib.hid (CW.out.on hb)
  replace CX := Lib.hid (CX.out.on hb)
  replace CZ := Lib.hid (CZ.out.on hb)
  replace R1 := Lib.hid (R1.out.on hb)
  first | rw [hw, hg] | rw [hw]
  clear hw hg hb
  obtain ⟨x00, x01, x02⟩ := C1.out.three
  obtain ⟨x10, x11, x12⟩ := CX.out.three
  go_wp2_with fail
  refine (KA.out _ _ _ R1.out R0.out).mono ?_
  rintro e w4 h
  obtain ⟨b2, A2, n2, c2, B2, m2, d2, rfl, ho, hb⟩ := h.open_
  replace HB := Lib.hid (bstep HB.out hb)
  replace R0 := Lib.hid (R0.out.on hb)
  replace CW := Lib.hid (CW.out.on hb)
  replace CX := Lib.hid (CX.out.on hb)
  replace CZ := Lib.hid (CZ.out.on hb)
  replace R1 := Lib.hid (R1.out.on hb)
  replace C1 := Lib.hid (C1.out.on hb)
  have R2 := Lib.hid (out_zero ho)
  clear h ho hb
  clear x00 x01 x02 x10 x11 x12
  go_upto_region 3 with fail
  obtain ⟨w5, hw⟩ : ∃ W, w4.alloc (.cells #[.bool b2, .slice A2 n2 c2, .slice B2 m2 d2] 27) = W := ⟨_, rfl⟩
  obtain ⟨gC2, hg⟩ : ∃ g, w4.heap.size = g := ⟨_, rfl⟩
  have hb : Below w4.heap.size w4 w5 := hw ▸ below_alloc _ _
  have C2 : Hid (Rw.Cel w5 gC2 [.bool b2, .slice A2 n2 c2, .slice B2 m2 d2]) := hw ▸ hg ▸ Rw.Cel.new w4 [_, _, _] _
  replace HB := Lib.hid (bstep HB.out hb)
  replace R0 := Lib.hid (R0.out.on hb)
  replace CW := Lib.hid (CW.out.on hb)
  replace CX := Lib.hid (CX.out.on hb)
  replace CZ := Lib.hid (CZ.out.on hb)
  replace R1 := Lib.hid (R1.out.on hb)
  replace C1 := Lib.hid (C1.out.on hb)
  replace R2 := Lib.hid (R2.out.on hb)
  first | rw [hw, hg] | rw [hw]
  clear hw hg hb
  obtain ⟨x00, x01, x02⟩ := CW.out.three
  obtain ⟨x10, x11, x12⟩ := C2.out.three
  obtain ⟨v0, v1, v2, v3, v4, v5⟩ := warm_six CZ.out
  obtain ⟨y0, y1, y2, y3, y4, y5⟩ := cel_six CZ.out
  go_wp2_with fail
  clear v0 v1 v2 v3 v4 v5 y0 y1 y2 y3 y4 y5
  clear x00 x01 x02 x10 x11 x12
  obtain ⟨wF, hF, F1, FR, FB, -, -⟩ := put_six CZ.out f r c b2 A2 B2 n2 c2 m2 d2
  first | rw [hF] | skip
  exact bodyPost_ret (res_s1 Try.results37 rfl F1) rfl ⟨_, _, _, _, _, _, _, rfl, FR _ _ R2.out, FB _ _ HB.out HZ.out⟩
set_option maxHeartbeats 3200000 in
theorem p_paper {f r c : Int} {q : Rat} (hs : Stp f r c q) (hk : ckW f r c = 0) (b0 : Bool) (A0 : Option Addr) (n0 c0 : Nat) (B0 : Option Addr) (m0 d0 : Nat) (w : World) (hv : IsR w (.agg #[.bool b0, .slice A0 n0 c0, .slice B0 m0 d0]) (hdV f q)) :
    Calls Try.prog 38 #[.agg #[.int .i64 f, .int .i64 r, .int .i64 c, .bool b0, .slice A0 n0 c0, .slice B0 m0 d0]] w (RRet w (paV f r q)) := by
  obtain ⟨hf, hr, hc⟩ := ckW_of hk
  obtain ⟨H1, B1, fr1, g1, g2⟩ := hs.hh
  have KP := Lib.hid fun (v : Value) (W : World) (h : IsR W v (hdV f q)) => p_part fr1 g1 g2 (show 0 ≤ r ∧ r ≤ 1000 by omega) v W h
  rw [show hdV f q * mkV r 1000 = paV f r q from rfl] at KP
  obtain ⟨vH, hH⟩ : ∃ x, hdV f q = x := ⟨_, rfl⟩
  obtain ⟨vP, hP⟩ : ∃ x, paV f r q = x := ⟨_, rfl⟩
  rw [hH] at KP hv
  rw [hP] at KP ⊢
  have R0 := Lib.hid hv
  clear hs hk hf hr hc fr1 g1 g2 hH hP hv
  go_enter Try.func38, Try.ntmps38
  go_upto_region 1 with fail
  obtain ⟨w1, hw⟩ : ∃ W, (w.alloc (.cells #[.int .i64 f, .int .i64 r, .int .i64 c, .bool b0, .slice A0 n0 c0, .slice B0 m0 d0] 50)).alloc (.cells #[.bool false, .slice none 0 0, .slice none 0 0] 27) = W := ⟨_, rfl⟩
  have CS : Hid (Rw.Cel w1 w.heap.size [.int .i64 f, .int .i64 r, .int .i64 c, .bool b0, .slice A0 n0 c0, .slice B0 m0 d0]) := hw ▸ (Rw.Cel.new w [_, _, _, _, _, _] _).alloc _
  have C1 : Hid (Rw.Cel w1 (w.heap.size + 1) [.bool false, .slice none 0 0, .slice none 0 0]) := hw ▸ Rw.Cel.new_at _ [_, _, _] _ (by simp)
  have HB : Hid (Below w.heap.size w w1) := hw ▸ bstep (below_alloc _ _) (below_alloc _ _)
  replace R0 := Lib.hid (R0.out.on HB.out)
  rw [hw]
  clear hw
  obtain ⟨y0, y1, y2, y3, y4, y5⟩ := cel_six CS.out
  go_wp2_with fail
  refine (KP.out _ _ R0.out).mono ?_
  rintro e w2 ⟨b1, A1, n1, c1, B1, m1, d1, rfl, ho, hb⟩
  replace HB := Lib.hid (bstep HB.out hb)
  replace C1 := Lib.hid (C1.out.on hb)
  have R1 := Lib.hid ho
  clear ho hb y0 y1 y2 y3 y4 y5
  obtain ⟨x0, x1, x2⟩ := C1.out.three
  obtain ⟨v0, v1, v2⟩ := C1.out.warm3
  go_wp2_with fail
  exact bodyPost_ret (res_r1 Try.results38 rfl (C1.out.put3 _ _ _)) rfl ⟨_, _, _, _, _, _, _, rfl, InR.put3 R1.out (cel_root C1.out) _ _ _, Rw.below_put3 HB.out (Nat.le_succ _) _ _ _⟩
set_option maxHeartbeats 3200000 in
theorem p_lost {f r c : Int} {q : Rat} (hs : Stp f r c q) (hk : ckW f r c = 0) (b0 : Bool) (A0 : Option Addr) (n0 c0 : Nat) (B0 : Option Addr) (m0 d0 : Nat) (w : World) (hv : IsR w (.agg #[.bool b0, .slice A0 n0 c0, .slice B0 m0 d0]) (hdV f q)) :
    Calls Try.prog 59 #[.agg #[.int .i64 f, .int .i64 r, .int .i64 c, .bool b0, .slice A0 n0 c0, .slice B0 m0 d0]] w (RRet w (reV f r q)) := by
  obtain ⟨hf, hr, hc⟩ := ckW_of hk
  obtain ⟨H1, B1, fr1, g1, g2⟩ := hs.hh
  have KP := Lib.hid fun (v : Value) (W : World) (h : IsR W v (hdV f q)) => p_part fr1 g1 g2 (show 0 ≤ 1000 - r ∧ 1000 - r ≤ 1000 by omega) v W h
  rw [part_rest (show 0 ≤ r ∧ r ≤ 1000 by omega), show subOp (hdV f q) (hdV f q * mkV r 1000) = reV f r q from rfl] at KP
  have wt : IntKind.i64.wrap (1000 - r) = 1000 - r := Rw.wrap_id (by omega)
  obtain ⟨t, ht⟩ : ∃ t, 1000 - r = t := ⟨_, rfl⟩
  rw [ht] at KP wt
  obtain ⟨vH, hH⟩ : ∃ x, hdV f q = x := ⟨_, rfl⟩
  obtain ⟨vP, hP⟩ : ∃ x, reV f r q = x := ⟨_, rfl⟩
  rw [hH] at KP hv
  rw [hP] at KP ⊢
  have R0 := Lib.hid hv
  clear hs hk hf hr hc fr1 g1 g2 hH hP hv
  go_enter Try.func59, Try.ntmps59
  go_upto_region 1 with fail
  obtain ⟨w1, hw⟩ : ∃ W, (w.alloc (.cells #[.int .i64 f, .int .i64 r, .int .i64 c, .bool b0, .slice A0 n0 c0, .slice B0 m0 d0] 50)).alloc (.cells #[.bool false, .slice none 0 0, .slice none 0 0] 27) = W := ⟨_, rfl⟩
  have CS : Hid (Rw.Cel w1 w.heap.size [.int .i64 f, .int .i64 r, .int .i64 c, .bool b0, .slice A0 n0 c0, .slice B0 m0 d0]) := hw ▸ (Rw.Cel.new w [_, _, _, _, _, _] _).alloc _
  have C1 : Hid (Rw.Cel w1 (w.heap.size + 1) [.bool false, .slice none 0 0, .slice none 0 0]) := hw ▸ Rw.Cel.new_at _ [_, _, _] _ (by simp)
  have HB : Hid (Below w.heap.size w w1) := hw ▸ bstep (below_alloc _ _) (below_alloc _ _)
  replace R0 := Lib.hid (R0.out.on HB.out)
  rw [hw]
  clear hw
  obtain ⟨y0, y1, y2, y3, y4, y5⟩ := cel_six CS.out
  go_wp2_with fail
  refine (KP.out _ _ R0.out).mono ?_
  rintro e w2 ⟨b1, A1, n1, c1, B1, m1, d1, rfl, ho, hb⟩
  replace HB := Lib.hid (bstep HB.out hb)
  replace C1 := Lib.hid (C1.out.on hb)
  have R1 := Lib.hid ho
  clear ho hb y0 y1 y2 y3 y4 y5
  obtain ⟨x0, x1, x2⟩ := C1.out.three
  obtain ⟨v0, v1, v2⟩ := C1.out.warm3
  go_wp2_with fail
  exact bodyPost_ret (res_r1 Try.results59 rfl (C1.out.put3 _ _ _)) rfl ⟨_, _, _, _, _, _, _, rfl, InR.put3 R1.out (cel_root C1.out) _ _ _, Rw.below_put3 HB.out (Nat.le_succ _) _ _ _⟩
set_option maxHeartbeats 3200000 in
theorem p_sewer {f r c : Int} {q : Rat} (hs : Stp f r c q) (hk : ckW f r c = 0) (b0 : Bool) (A0 : Option Addr) (n0 c0 : Nat) (B0 : Option Addr) (m0 d0 : Nat) (w : World) (hv : IsR w (.agg #[.bool b0, .slice A0 n0 c0, .slice B0 m0 d0]) (hdV f q)) :
    Calls Try.prog 39 #[.agg #[.int .i64 f, .int .i64 r, .int .i64 c, .bool b0, .slice A0 n0 c0, .slice B0 m0 d0]] w (RRet w (seV f r c q)) := by
  obtain ⟨hf, hr, hc⟩ := ckW_of hk
  obtain ⟨H2, B2, fr2, g3, g4⟩ := hs.hr
  have KL := Lib.hid fun (W : World) (h : IsR W (.agg #[.bool b0, .slice A0 n0 c0, .slice B0 m0 d0]) (hdV f q)) => p_lost hs hk b0 A0 n0 c0 B0 m0 d0 W h
  have KP := Lib.hid fun (v : Value) (W : World) (h : IsR W v (reV f r q)) => p_part fr2 g3 g4 (show 0 ≤ 1000 - c ∧ 1000 - c ≤ 1000 by omega) v W h
  rw [part_rest (show 0 ≤ c ∧ c ≤ 1000 by omega), show subOp (reV f r q) (reV f r q * mkV c 1000) = seV f r c q from rfl] at KP
  have wt : IntKind.i64.wrap (1000 - c) = 1000 - c := Rw.wrap_id (by omega)
  obtain ⟨t, ht⟩ : ∃ t, 1000 - c = t := ⟨_, rfl⟩
  rw [ht] at KP wt
  obtain ⟨vH, hH⟩ : ∃ x, hdV f q = x := ⟨_, rfl⟩
  obtain ⟨vE, hE⟩ : ∃ x, reV f r q = x := ⟨_, rfl⟩
  obtain ⟨vP, hP⟩ : ∃ x, seV f r c q = x := ⟨_, rfl⟩
  rw [hH] at KL hv
  rw [hE] at KL KP
  rw [hP] at KP ⊢
  have R0 := Lib.hid hv
  clear hs hk hf hr hc fr2 g3 g4 hH hE hP hv
  go_enter Try.func39, Try.ntmps39
  go_upto_region 1 with fail
  obtain ⟨w1, hw⟩ : ∃ W, (w.alloc (.cells #[.int .i64 f, .int .i64 r, .int .i64 c, .bool b0, .slice A0 n0 c0, .slice B0 m0 d0] 50)).alloc (.cells #[.bool false, .slice none 0 0, .slice none 0 0] 27) = W := ⟨_, rfl⟩
  have CS : Hid (Rw.Cel w1 w.heap.size [.int .i64 f, .int .i64 r, .int .i64 c, .bool b0, .slice A0 n0 c0, .slice B0 m0 d0]) := hw ▸ (Rw.Cel.new w [_, _, _, _, _, _] _).alloc _
  have C1 : Hid (Rw.Cel w1 (w.heap.size + 1) [.bool false, .slice none 0 0, .slice none 0 0]) := hw ▸ Rw.Cel.new_at _ [_, _, _] _ (by simp)
  have HB : Hid (Below w.heap.size w w1) := hw ▸ bstep (below_alloc _ _) (below_alloc _ _)
  replace R0 := Lib.hid (R0.out.on HB.out)
  rw [hw]
  clear hw
  obtain ⟨z, hz⟩ : ∃ z, w.heap.size + 1 = z := ⟨_, rfl⟩
  have HZ : Hid (z = w.heap.size + 1) := Lib.hid hz.symm
  rw [hz] at C1 ⊢
  clear hz
  obtain ⟨y0, y1, y2, y3, y4, y5⟩ := cel_six CS.out
  have RD : Hid (IsR w1.drew (.agg #[.bool b0, .slice A0 n0 c0, .slice B0 m0 d0]) vH) := Lib.hid (R0.out.on (drew_below _))
  have CD : Hid (Rw.Cel w1.drew w.heap.size [.int .i64 f, .int .i64 r, .int .i64 c, .bool b0, .slice A0 n0 c0, .slice B0 m0 d0]) := Lib.hid CS.out.drew
  have ZD : Hid (Rw.Cel w1.drew z [.bool false, .slice none 0 0, .slice none 0 0]) := Lib.hid C1.out.drew
  have BD : Hid (Below w.heap.size w w1.drew) := Lib.hid (below_drew HB.out)
  go_wp2_with fail
  go_region_held3 (fun W' => W'.cell? ⟨w.heap.size, 0, none⟩ = some (.int .i64 f) ∧ W'.cell? ⟨w.heap.size, 1, none⟩ = some (.int .i64 r) ∧ W'.cell? ⟨w.heap.size, 2, none⟩ = some (.int .i64 c) ∧ W'.cell? ⟨w.heap.size, 3, none⟩ = some (.bool b0) ∧ W'.cell? ⟨w.heap.size, 4, none⟩ = some (.slice A0 n0 c0) ∧ W'.cell? ⟨w.heap.size, 5, none⟩ = some (.slice B0 m0 d0))
    (first | exact ⟨y0, y1, y2, y3, y4, y5⟩ | exact cel_six (CD.out.on hb3) | exact cel_six ((CD.out.on hb3).on hb4) | exact cel_six (far3 ((CD.out.on hb3).on hb4) (show z ≠ w.heap.size by have := HZ.out; omega) _ _ _))
    (first | (go_at_call 59; (with_reducible refine (KL.out _ RD.out).mono ?_); rintro e w3 ⟨b3, A3, n3, c3, B3, m3, d3, rfl, ho3, hb3⟩; have R3 := Lib.hid ho3) | (go_at_call 58; (with_reducible refine (KP.out _ _ R3.out).mono ?_); rintro e w4 ⟨b4, A4, n4, c4, B4, m4, d4, rfl, ho4, hb4⟩; have R4 := Lib.hid ho4; have Z4 := Lib.hid ((ZD.out.on hb3).on hb4); obtain ⟨x0, x1, x2⟩ := Z4.out.three; obtain ⟨v0, v1, v2⟩ := Z4.out.warm3))
  all_goals (have HF : Hid (Below w.heap.size w w4) := Lib.hid (bstep (bstep BD.out hb3) hb4))
  all_goals go_wp2_with fail
  all_goals exact bodyPost_ret (res_r1 Try.results39 rfl (Z4.out.put3 _ _ _)) rfl ⟨_, _, _, _, _, _, _, rfl, InR.put3 R4.out (cel_root Z4.out) _ _ _, Rw.below_put3 HF.out (show w.heap.size ≤ z by have := HZ.out; omega) _ _ _⟩
set_option maxHeartbeats 3200000 in
theorem p_white {f r c : Int} {q : Rat} (hs : Stp f r c q) (hk : ckW f r c = 0) (b0 : Bool) (A0 : Option Addr) (n0 c0 : Nat) (B0 : Option Addr) (m0 d0 : Nat) (w : World) (hv : IsR w (.agg #[.bool b0, .slice A0 n0 c0, .slice B0 m0 d0]) (hdV f q)) :
    Calls Try.prog 40 #[.agg #[.int .i64 f, .int .i64 r, .int .i64 c, .bool b0, .slice A0 n0 c0, .slice B0 m0 d0]] w (RRet w (afV f r c q)) := by
  obtain ⟨hf, hr, hc⟩ := ckW_of hk
  obtain ⟨H2, B2, fr2, g3, g4⟩ := hs.hr
  have KL := Lib.hid fun (W : World) (h : IsR W (.agg #[.bool b0, .slice A0 n0 c0, .slice B0 m0 d0]) (hdV f q)) => p_lost hs hk b0 A0 n0 c0 B0 m0 d0 W h
  have KP := Lib.hid fun (v : Value) (W : World) (h : IsR W v (reV f r q)) => p_part fr2 g3 g4 (show 0 ≤ c ∧ c ≤ 1000 by omega) v W h
  rw [show reV f r q * mkV c 1000 = afV f r c q from rfl] at KP
  obtain ⟨vH, hH⟩ : ∃ x, hdV f q = x := ⟨_, rfl⟩
  obtain ⟨vE, hE⟩ : ∃ x, reV f r q = x := ⟨_, rfl⟩
  obtain ⟨vP, hP⟩ : ∃ x, afV f r c q = x := ⟨_, rfl⟩
  rw [hH] at KL hv
  rw [hE] at KL KP
  rw [hP] at KP ⊢
  have R0 := Lib.hid hv
  clear hs hk hf hr hc fr2 g3 g4 hH hE hP hv
  go_enter Try.func40, Try.ntmps40
  go_upto_region 1 with fail
  obtain ⟨w1, hw⟩ : ∃ W, (w.alloc (.cells #[.int .i64 f, .int .i64 r, .int .i64 c, .bool b0, .slice A0 n0 c0, .slice B0 m0 d0] 50)).alloc (.cells #[.bool false, .slice none 0 0, .slice none 0 0] 27) = W := ⟨_, rfl⟩
  have CS : Hid (Rw.Cel w1 w.heap.size [.int .i64 f, .int .i64 r, .int .i64 c, .bool b0, .slice A0 n0 c0, .slice B0 m0 d0]) := hw ▸ (Rw.Cel.new w [_, _, _, _, _, _] _).alloc _
  have C1 : Hid (Rw.Cel w1 (w.heap.size + 1) [.bool false, .slice none 0 0, .slice none 0 0]) := hw ▸ Rw.Cel.new_at _ [_, _, _] _ (by simp)
  have HB : Hid (Below w.heap.size w w1) := hw ▸ bstep (below_alloc _ _) (below_alloc _ _)
  replace R0 := Lib.hid (R0.out.on HB.out)
  rw [hw]
  clear hw
  obtain ⟨z, hz⟩ : ∃ z, w.heap.size + 1 = z := ⟨_, rfl⟩
  have HZ : Hid (z = w.heap.size + 1) := Lib.hid hz.symm
  rw [hz] at C1 ⊢
  clear hz
  obtain ⟨y0, y1, y2, y3, y4, y5⟩ := cel_six CS.out
  have RD : Hid (IsR w1.drew (.agg #[.bool b0, .slice A0 n0 c0, .slice B0 m0 d0]) vH) := Lib.hid (R0.out.on (drew_below _))
  have CD : Hid (Rw.Cel w1.drew w.heap.size [.int .i64 f, .int .i64 r, .int .i64 c, .bool b0, .slice A0 n0 c0, .slice B0 m0 d0]) := Lib.hid CS.out.drew
  have ZD : Hid (Rw.Cel w1.drew z [.bool false, .slice none 0 0, .slice none 0 0]) := Lib.hid C1.out.drew
  have BD : Hid (Below w.heap.size w w1.drew) := Lib.hid (below_drew HB.out)
  go_wp2_with fail
  go_region_held3 (fun W' => W'.cell? ⟨w.heap.size, 0, none⟩ = some (.int .i64 f) ∧ W'.cell? ⟨w.heap.size, 1, none⟩ = some (.int .i64 r) ∧ W'.cell? ⟨w.heap.size, 2, none⟩ = some (.int .i64 c) ∧ W'.cell? ⟨w.heap.size, 3, none⟩ = some (.bool b0) ∧ W'.cell? ⟨w.heap.size, 4, none⟩ = some (.slice A0 n0 c0) ∧ W'.cell? ⟨w.heap.size, 5, none⟩ = some (.slice B0 m0 d0))
    (first | exact ⟨y0, y1, y2, y3, y4, y5⟩ | exact cel_six (CD.out.on hb3) | exact cel_six ((CD.out.on hb3).on hb4) | exact cel_six (far3 ((CD.out.on hb3).on hb4) (show z ≠ w.heap.size by have := HZ.out; omega) _ _ _))
    (first | (go_at_call 59; (with_reducible refine (KL.out _ RD.out).mono ?_); rintro e w3 ⟨b3, A3, n3, c3, B3, m3, d3, rfl, ho3, hb3⟩; have R3 := Lib.hid ho3) | (go_at_call 58; (with_reducible refine (KP.out _ _ R3.out).mono ?_); rintro e w4 ⟨b4, A4, n4, c4, B4, m4, d4, rfl, ho4, hb4⟩; have R4 := Lib.hid ho4; have Z4 := Lib.hid ((ZD.out.on hb3).on hb4); obtain ⟨x0, x1, x2⟩ := Z4.out.three; obtain ⟨v0, v1, v2⟩ := Z4.out.warm3))
  all_goals (have HF : Hid (Below w.heap.size w w4) := Lib.hid (bstep (bstep BD.out hb3) hb4))
  all_goals go_wp2_with fail
  all_goals exact bodyPost_ret (res_r1 Try.results40 rfl (Z4.out.put3 _ _ _)) rfl ⟨_, _, _, _, _, _, _, rfl, InR.put3 R4.out (cel_root Z4.out) _ _ _, Rw.below_put3 HF.out (show w.heap.size ≤ z by have := HZ.out; omega) _ _ _⟩
end Go.Proofs.Ytohfaoclemcfaaa.Wet
/- The program: Step, Steady (gen20/r.py). -/
namespace Go.Proofs.Ytohfaoclemcfaaa.Wet
open Go.ChangeShapes Go.WideShapes Go.RowKit Go.Lib
open Go.Proofs.Ytohfaoclemcfaaa.Rw (ret_bool ret_int bstep below_drewN below_drew drew_below below_alloc)
set_option linter.unusedVariables false
set_option maxRecDepth 100000

theorem stE_zero {f r c : Int} {b : Bool} {xs ys : List Int} (h : stE f r c b xs ys = 0) : ckW f r c = 0 ∧ whE b xs ys = 0 := stE_of h
/-- What a step's calls give, for white water that is let in. -/
theorem step_calls {f r c : Int} {b : Bool} {xs ys : List Int} (h0 : ckW f r c = 0) (h1 : whE b xs ys = 0) :
    (∀ (v : Value) (W : World), InR W v b xs ys → Calls Try.prog 37 #[.agg #[.int .i64 f, .int .i64 r, .int .i64 c], v] W (SRet W f r c (hdV f (ratV b xs ys)))) ∧
    (∀ (b0 : Bool) (A0 : Option Addr) (n0 c0 : Nat) (B0 : Option Addr) (m0 d0 : Nat) (W : World), IsR W (.agg #[.bool b0, .slice A0 n0 c0, .slice B0 m0 d0]) (hdV f (ratV b xs ys)) → Calls Try.prog 38 #[.agg #[.int .i64 f, .int .i64 r, .int .i64 c, .bool b0, .slice A0 n0 c0, .slice B0 m0 d0]] W (RRet W (paV f r (ratV b xs ys)))) ∧
    (∀ (b0 : Bool) (A0 : Option Addr) (n0 c0 : Nat) (B0 : Option Addr) (m0 d0 : Nat) (W : World), IsR W (.agg #[.bool b0, .slice A0 n0 c0, .slice B0 m0 d0]) (hdV f (ratV b xs ys)) → Calls Try.prog 39 #[.agg #[.int .i64 f, .int .i64 r, .int .i64 c, .bool b0, .slice A0 n0 c0, .slice B0 m0 d0]] W (RRet W (seV f r c (ratV b xs ys)))) ∧
    (∀ (b0 : Bool) (A0 : Option Addr) (n0 c0 : Nat) (B0 : Option Addr) (m0 d0 : Nat) (W : World), IsR W (.agg #[.bool b0, .slice A0 n0 c0, .slice B0 m0 d0]) (hdV f (ratV b xs ys)) → Calls Try.prog 40 #[.agg #[.int .i64 f, .int .i64 r, .int .i64 c, .bool b0, .slice A0 n0 c0, .slice B0 m0 d0]] W (RRet W (afV f r c (ratV b xs ys)))) := by
  obtain ⟨q, hq, rfl, rfl, rfl, h4, h5, h6⟩ := wh_fr h1
  rw [(form_val hq).2]
  have hs := (Wn.start h5 h6).stp h0
  exact ⟨fun v W h => p_begin hs h0 v W h, fun b0 A0 n0 c0 B0 m0 d0 W h => p_paper hs h0 b0 A0 n0 c0 B0 m0 d0 W h, fun b0 A0 n0 c0 B0 m0 d0 W h => p_sewer hs h0 b0 A0 n0 c0 B0 m0 d0 W h, fun b0 A0 n0 c0 B0 m0 d0 W h => p_white hs h0 b0 A0 n0 c0 B0 m0 d0 W h⟩
set_option maxHeartbeats 6400000 in
theorem p_Step (f r c : Int) (v : Value) (b : Bool) (xs ys : List Int) (w : World) (hv : InR w v b xs ys) :
    Calls Try.prog 17 #[.agg #[.int .i64 f, .int .i64 r, .int .i64 c], v] w (RRet4 w (stE f r c b xs ys) (paV f r (ratV b xs ys)) (seV f r c (ratV b xs ys)) (afV f r c (ratV b xs ys))) := by
  have KC := Lib.hid fun (v : Value) (W : World) (h : InR W v b xs ys) => p_checkWhite f r c v b xs ys W h
  have KS := Lib.hid fun (h : stE f r c b xs ys = 0) => step_calls (stE_zero h).1 (stE_zero h).2
  obtain ⟨T, hT⟩ : ∃ T, stE f r c b xs ys = T := ⟨_, rfl⟩
  rw [hT] at KC KS ⊢
  obtain ⟨vH, hH⟩ : ∃ x, hdV f (ratV b xs ys) = x := ⟨_, rfl⟩
  obtain ⟨vP, hP⟩ : ∃ x, paV f r (ratV b xs ys) = x := ⟨_, rfl⟩
  obtain ⟨vS, hS⟩ : ∃ x, seV f r c (ratV b xs ys) = x := ⟨_, rfl⟩
  obtain ⟨vA, hA⟩ : ∃ x, afV f r c (ratV b xs ys) = x := ⟨_, rfl⟩
  rw [hH, hP, hS, hA] at KS
  rw [hP, hS, hA]
  have R0 := Lib.hid hv
  obtain ⟨vp, vq, rfl, ha, hb⟩ := hv
  obtain ⟨A0, c0, rfl, -⟩ := in_open ha
  obtain ⟨B0, d0, rfl, -⟩ := in_open hb
  obtain ⟨n0, hn0⟩ : ∃ n, xs.length = n := ⟨_, rfl⟩
  obtain ⟨m0, hm0⟩ : ∃ n, ys.length = n := ⟨_, rfl⟩
  rw [hn0, hm0] at R0 ⊢
  have HB := Lib.hid (Below.refl w.heap.size w)
  clear hT hH hP hS hA ha hb hn0 hm0
  go_enter Try.func17, Try.ntmps17
  go_upto_region 1 with fail
  obtain ⟨w1, z1, z2, z3, hw, hz1, hz2, hz3, cw, cx, cz1, cz2, cz3, hb, hsz⟩ := five w (.int .i64 f) (.int .i64 r) (.int .i64 c) (.bool b) (.slice A0 n0 c0) (.slice B0 m0 d0)
  have CW := Lib.hid cw
  have CX := Lib.hid cx
  have Z1 := Lib.hid cz1
  have Z2 := Lib.hid cz2
  have Z3 := Lib.hid cz3
  have SZ := Lib.hid hsz
  have HZ : Hid (z1 = w.heap.size + 2 ∧ z2 = w.heap.size + 3 ∧ z3 = w.heap.size + 4) := Lib.hid (by omega)
  replace HB := Lib.hid (bstep HB.out hb)
  replace R0 := Lib.hid (R0.out.on hb)
  rw [hz1, hz2, hz3]
  rw [hw]
  clear hw hb hz1 hz2 hz3 cw cx cz1 cz2 cz3 hsz
  obtain ⟨x00, x01, x02⟩ := CW.out.three
  obtain ⟨x10, x11, x12⟩ := CX.out.three
  go_wp2_with fail
  refine (KC.out _ _ R0.out).mono ?_
  rintro e w2 ⟨rfl, hb⟩
  replace HB := Lib.hid (bstep HB.out hb)
  replace SZ := Lib.hid (Nat.le_trans SZ.out hb.size)
  replace R0 := Lib.hid (R0.out.on hb)
  replace CW := Lib.hid (CW.out.on hb)
  replace CX := Lib.hid (CX.out.on hb)
  replace Z1 := Lib.hid (Z1.out.on hb)
  replace Z2 := Lib.hid (Z2.out.on hb)
  replace Z3 := Lib.hid (Z3.out.on hb)
  clear hb
  clear x00 x01 x02 x10 x11 x12
  by_cases hz : T = 0
  rotate_left
  · obtain ⟨y1, y2⟩ := ne_zero hz
    have o12 : ¬ z1 = z2 := by have := HZ.out; omega
    have o13 : ¬ z1 = z3 := by have := HZ.out; omega
    have o21 : ¬ z2 = z1 := by have := HZ.out; omega
    have o23 : ¬ z2 = z3 := by have := HZ.out; omega
    have o31 : ¬ z3 = z1 := by have := HZ.out; omega
    have o32 : ¬ z3 = z2 := by have := HZ.out; omega
    obtain ⟨x00, x01, x02⟩ := Z1.out.three
    obtain ⟨x10, x11, x12⟩ := Z2.out.three
    obtain ⟨x20, x21, x22⟩ := Z3.out.three
    obtain ⟨v10, v11, v12⟩ := Z1.out.warm3
    obtain ⟨v20, v21, v22⟩ := Z2.out.warm3
    obtain ⟨v30, v31, v32⟩ := Z3.out.warm3
    go_wp2_with fail
    clear o12 o13 o21 o23 o31 o32 x00 x01 x02 x10 x11 x12 x20 x21 x22 v10 v11 v12 v20 v21 v22 v30 v31 v32
    obtain ⟨wF, hF, F1, F2, F3, FR, FB⟩ := put9 (w := w2) Z1.out Z2.out Z3.out (by have := HZ.out; omega) (by have := HZ.out; omega) (by have := HZ.out; omega) (.bool false) (.slice none 0 0) (.slice none 0 0) (.bool false) (.slice none 0 0) (.slice none 0 0) (.bool false) (.slice none 0 0) (.slice none 0 0)
    rw [hF]
    have G1 := Lib.hid F1
    have G2 := Lib.hid F2
    have G3 := Lib.hid F3
    have GR := Lib.hid FR
    have GB := Lib.hid (FB _ _ HB.out (by have := HZ.out; omega) (by have := HZ.out; omega) (by have := HZ.out; omega))
    clear hF F1 F2 F3 FR FB
    exact bodyPost_ret (res_r4 Try.results17 rfl rfl rfl G1.out G2.out G3.out) rfl ⟨_, _, _, _, _, _, _, _, _, _, _, _, _, _, _, _, _, _, _, _, _, rfl, OutR.no hz, OutR.no hz, OutR.no hz, GB.out⟩
  subst hz
  have KB := Lib.hid (KS.out rfl).1
  have KP := Lib.hid (KS.out rfl).2.1
  have KE := Lib.hid (KS.out rfl).2.2.1
  have KA := Lib.hid (KS.out rfl).2.2.2
  clear KS
  obtain ⟨x00, x01, x02⟩ := CW.out.three
  obtain ⟨x10, x11, x12⟩ := CX.out.three
  go_wp2_with fail
  refine (KB.out _ _ R0.out).mono ?_
  rintro e w3 ⟨b1, A1, n1, c1, B1, m1, d1, rfl, ho, hb⟩
  replace HB := Lib.hid (bstep HB.out hb)
  replace SZ := Lib.hid (Nat.le_trans SZ.out hb.size)
  replace R0 := Lib.hid (R0.out.on hb)
  replace CW := Lib.hid (CW.out.on hb)
  replace CX := Lib.hid (CX.out.on hb)
  replace Z1 := Lib.hid (Z1.out.on hb)
  replace Z2 := Lib.hid (Z2.out.on hb)
  replace Z3 := Lib.hid (Z3.out.on hb)
  have RH := Lib.hid ho
  clear ho hb
  clear x00 x01 x02 x10 x11 x12
  go_upto_region 5 with fail
  obtain ⟨w4, hw⟩ : ∃ W, w3.alloc (.cells #[.int .i64 f, .int .i64 r, .int .i64 c, .bool b1, .slice A1 n1 c1, .slice B1 m1 d1] 50) = W := ⟨_, rfl⟩
  obtain ⟨g, hg⟩ : ∃ g, w3.heap.size = g := ⟨_, rfl⟩
  have hb : Below w3.heap.size w3 w4 := hw ▸ below_alloc _ _
  have CS : Hid (Rw.Cel w4 g [.int .i64 f, .int .i64 r, .int .i64 c, .bool b1, .slice A1 n1 c1, .slice B1 m1 d1]) := hw ▸ hg ▸ Rw.Cel.new w3 [_, _, _, _, _, _] _
  have HG : Hid (w.heap.size + 5 ≤ g) := Lib.hid (by have := SZ.out; omega)
  replace HB := Lib.hid (bstep HB.out hb)
  replace SZ := Lib.hid (Nat.le_trans SZ.out hb.size)
  replace R0 := Lib.hid (R0.out.on hb)
  replace CW := Lib.hid (CW.out.on hb)
  replace CX := Lib.hid (CX.out.on hb)
  replace Z1 := Lib.hid (Z1.out.on hb)
  replace Z2 := Lib.hid (Z2.out.on hb)
  replace Z3 := Lib.hid (Z3.out.on hb)
  replace RH := Lib.hid (RH.out.on hb)
  first | rw [hw, hg] | rw [hw]
  clear hw hg hb
  obtain ⟨y0, y1, y2, y3, y4, y5⟩ := cel_six CS.out
  have RD : Hid (IsR w4.drew (.agg #[.bool b1, .slice A1 n1 c1, .slice B1 m1 d1]) vH) := Lib.hid (RH.out.on (drew_below _))
  have CD := Lib.hid CS.out.drew
  have D1 := Lib.hid Z1.out.drew
  have D2 := Lib.hid Z2.out.drew
  have D3 := Lib.hid Z3.out.drew
  have BD : Hid (Below w.heap.size w w4.drew) := Lib.hid (below_drew HB.out)
  have o12 : ¬ z1 = z2 := by have := HZ.out; omega
  have o13 : ¬ z1 = z3 := by have := HZ.out; omega
  have o21 : ¬ z2 = z1 := by have := HZ.out; omega
  have o23 : ¬ z2 = z3 := by have := HZ.out; omega
  have o31 : ¬ z3 = z1 := by have := HZ.out; omega
  have o32 : ¬ z3 = z2 := by have := HZ.out; omega
  have p1 : z1 ≠ g := by have := HZ.out; have := HG.out; omega
  have p2 : z2 ≠ g := by have := HZ.out; have := HG.out; omega
  have p3 : z3 ≠ g := by have := HZ.out; have := HG.out; omega
  have HP := Lib.hid (And.intro p1 (And.intro p2 p3))
  clear p1 p2 p3
  go_wp2_with fail
  go_region_held3 (fun W' => W'.cell? ⟨g, 0, none⟩ = some (.int .i64 f) ∧ W'.cell? ⟨g, 1, none⟩ = some (.int .i64 r) ∧ W'.cell? ⟨g, 2, none⟩ = some (.int .i64 c) ∧ W'.cell? ⟨g, 3, none⟩ = some (.bool b1) ∧ W'.cell? ⟨g, 4, none⟩ = some (.slice A1 n1 c1) ∧ W'.cell? ⟨g, 5, none⟩ = some (.slice B1 m1 d1))
    (first | with_reducible exact cel_six CD.out | with_reducible exact cel_six (CD.out.on hb5) | with_reducible exact cel_six ((CD.out.on hb5).on hb6) | with_reducible exact cel_six (((CD.out.on hb5).on hb6).on hb7) | with_reducible exact cel_six (far3 (((CD.out.on hb5).on hb6).on hb7) HP.out.1 _ _ _) | with_reducible exact cel_six (far3 (far3 (((CD.out.on hb5).on hb6).on hb7) HP.out.1 _ _ _) HP.out.2.1 _ _ _) | with_reducible exact cel_six (far3 (far3 (far3 (((CD.out.on hb5).on hb6).on hb7) HP.out.1 _ _ _) HP.out.2.1 _ _ _) HP.out.2.2 _ _ _))
    (first | (go_at_call 38; (with_reducible refine (KP.out _ _ _ _ _ _ _ _ RD.out).mono ?_); rintro e w5 ⟨b5, A5, n5, c5, B5, m5, d5, rfl, ho5, hb5⟩; have R5 := Lib.hid ho5) | (go_at_call 39; (with_reducible refine (KE.out _ _ _ _ _ _ _ _ (RD.out.on hb5)).mono ?_); rintro e w6 ⟨b6, A6, n6, c6, B6, m6, d6, rfl, ho6, hb6⟩; have R6 := Lib.hid ho6) | (go_at_call 40; (with_reducible refine (KA.out _ _ _ _ _ _ _ _ ((RD.out.on hb5).on hb6)).mono ?_); rintro e w7 ⟨b7, A7, n7, c7, B7, m7, d7, rfl, ho7, hb7⟩; have R7 := Lib.hid ho7; have E1 := Lib.hid (((D1.out.on hb5).on hb6).on hb7); have E2 := Lib.hid (((D2.out.on hb5).on hb6).on hb7); have E3 := Lib.hid (((D3.out.on hb5).on hb6).on hb7); obtain ⟨x00, x01, x02⟩ := E1.out.three; obtain ⟨x10, x11, x12⟩ := E2.out.three; obtain ⟨x20, x21, x22⟩ := E3.out.three; obtain ⟨v10, v11, v12⟩ := E1.out.warm3; obtain ⟨v20, v21, v22⟩ := E2.out.warm3; obtain ⟨v30, v31, v32⟩ := E3.out.warm3))
  all_goals
    have BB : Hid (Below w.heap.size w w7) := Lib.hid (bstep (bstep (bstep BD.out hb5) hb6) hb7)
    have Q5 : Hid (IsR w7 (.agg #[.bool b5, .slice A5 n5 c5, .slice B5 m5 d5]) vP) := Lib.hid ((R5.out.on hb6).on hb7)
    have Q6 : Hid (IsR w7 (.agg #[.bool b6, .slice A6 n6 c6, .slice B6 m6 d6]) vS) := Lib.hid (R6.out.on hb7)
    clear x00 x01 x02 x10 x11 x12 x20 x21 x22 v10 v11 v12 v20 v21 v22 v30 v31 v32 y0 y1 y2 y3 y4 y5
    obtain ⟨wF, hF, F1, F2, F3, FR, FB⟩ := put9 (w := w7) E1.out E2.out E3.out (by have := HZ.out; omega) (by have := HZ.out; omega) (by have := HZ.out; omega) (.bool b5) (.slice A5 n5 c5) (.slice B5 m5 d5) (.bool b6) (.slice A6 n6 c6) (.slice B6 m6 d6) (.bool b7) (.slice A7 n7 c7) (.slice B7 m7 d7)
    rw [hF]
    go_wp2_with fail
    exact bodyPost_ret (res_r4 Try.results17 rfl rfl rfl F1 F2 F3) rfl ⟨_, _, _, _, _, _, _, _, _, _, _, _, _, _, _, _, _, _, _, _, _, rfl, OutR.ok (FR _ _ _ _ Q5.out), OutR.ok (FR _ _ _ _ Q6.out), OutR.ok (FR _ _ _ _ R7.out), FB _ _ BB.out (by have := HZ.out; omega) (by have := HZ.out; omega) (by have := HZ.out; omega)⟩
set_option maxHeartbeats 6400000 in
theorem p_Steady (f r c : Int) (w : World) : Calls Try.prog 10 #[.agg #[.int .i64 f, .int .i64 r, .int .i64 c]] w (RRes w (ckW f r c) (sdV f r c)) := by
  have KC := Lib.hid fun (W : World) => p_Check f r c W
  obtain ⟨E, hE⟩ : ∃ E, ckW f r c = E := ⟨_, rfl⟩
  rw [hE] at KC ⊢
  have HE := Lib.hid hE
  have HB := Lib.hid (Below.refl w.heap.size w)
  clear hE
  go_enter Try.func10, Try.ntmps10
  go_upto_region 1 with fail
  obtain ⟨w1, z, hw, hz, cw, cz, hb⟩ := two_box w (.int .i64 f) (.int .i64 r) (.int .i64 c)
  have CW := Lib.hid cw
  have ZC := Lib.hid cz
  have HZ : Hid (w.heap.size ≤ z) := Lib.hid (by omega)
  replace HB := Lib.hid (bstep HB.out hb)
  rw [hz]
  rw [hw]
  clear hw hz cw cz hb
  obtain ⟨x00, x01, x02⟩ := CW.out.three
  go_wp2_with fail
  refine (KC.out _).mono ?_
  rintro e w2 ⟨rfl, hb⟩
  replace HB := Lib.hid (bstep HB.out hb)
  replace CW := Lib.hid (CW.out.on hb)
  replace ZC := Lib.hid (ZC.out.on hb)
  clear hb
  clear x00 x01 x02
  by_cases hz : E = 0
  rotate_left
  · obtain ⟨y1, y2⟩ := ne_zero hz
    obtain ⟨x00, x01, x02⟩ := ZC.out.three
    obtain ⟨v0, v1, v2⟩ := ZC.out.warm3
    go_wp2_with fail
    exact bodyPost_ret (res_r2 Try.results10 rfl (ZC.out.put3 _ _ _)) rfl ⟨_, rfl, OutR.no hz, Rw.below_put3 HB.out HZ.out _ _ _⟩
  subst hz
  obtain ⟨hf, hr, hc⟩ := ckW_of HE.out
  have hl := kI_lim hr hc
  obtain ⟨s1, s2, s3⟩ := sd_ok HE.out
  have KO := Lib.hid fun (W : World) => q_Of hf.1 hf.2 W
  have KM := Lib.hid fun (W : World) => q_Make hl.1 (show kI r c ≤ 1000000 by omega) (show 1 ≤ 1000000 - kI r c by omega) (by omega) W
  have KU := Lib.hid fun (v u : Value) (W : World) (h : IsR W v (mkV f 1)) (h2 : IsR W u (mkV (kI r c) (1000000 - kI r c))) => q_Mul s1 s2 s3 v u W h h2
  obtain ⟨t, ht⟩ : ∃ t, 1000 - r = t := ⟨_, rfl⟩
  obtain ⟨kk, hkk⟩ : ∃ k, t * c = k := ⟨_, rfl⟩
  have hki : kI r c = kk := by unfold kI; rw [ht, hkk]
  obtain ⟨ll, hll⟩ : ∃ k, 1000000 - kk = k := ⟨_, rfl⟩
  rw [hki] at hl KM KU
  rw [hll] at KM KU
  have wt : IntKind.i64.wrap t = t := Rw.wrap_id (by omega)
  have wk : IntKind.i64.wrap kk = kk := Rw.wrap_id (by omega)
  have wl : IntKind.i64.wrap ll = ll := Rw.wrap_id (by omega)
  have hsd : sdV f r c = mkV f 1 * mkV kk ll := by unfold sdV; rw [hki, hll]
  rw [← hsd] at KU
  obtain ⟨vF, hF⟩ : ∃ x, mkV f 1 = x := ⟨_, rfl⟩
  obtain ⟨vK, hK⟩ : ∃ x, mkV kk ll = x := ⟨_, rfl⟩
  rw [hF] at KO KU
  rw [hK] at KM KU
  clear hf hr hc hl s1 s2 s3 hki hsd hF hK
  obtain ⟨x00, x01, x02⟩ := CW.out.three
  go_wp2_with fail
  refine (KO.out _).mono ?_
  rintro e w3 h
  obtain ⟨b1, A1, n1, c1, B1, m1, d1, rfl, ho, hb⟩ := h.open_
  replace HB := Lib.hid (bstep HB.out hb)
  replace CW := Lib.hid (CW.out.on hb)
  replace ZC := Lib.hid (ZC.out.on hb)
  have R1 := Lib.hid (out_zero ho)
  clear h ho hb
  clear x00 x01 x02
  go_upto_region 6 with fail
  obtain ⟨w4, hw⟩ : ∃ W, w3.alloc (.cells #[.bool b1, .slice A1 n1 c1, .slice B1 m1 d1] 27) = W := ⟨_, rfl⟩
  obtain ⟨gC1, hg⟩ : ∃ g, w3.heap.size = g := ⟨_, rfl⟩
  have hb : Below w3.heap.size w3 w4 := hw ▸ below_alloc _ _
  have C1 : Hid (Rw.Cel w4 gC1 [.bool b1, .slice A1 n1 c1, .slice B1 m1 d1]) := hw ▸ hg ▸ Rw.Cel.new w3 [_, _, _] _
  replace HB := Lib.hid (bstep HB.out hb)
  replace CW := Lib.hid (CW.out.on hb)
  replace ZC := Lib.hid (ZC.out.on hb)
  replace R1 := Lib.hid (R1.out.on hb)
  first | rw [hw, hg] | rw [hw]
  clear hw hg hb
  go_wp2_with fail
  refine (KM.out _).mono ?_
  rintro e w5 h
  obtain ⟨b2, A2, n2, c2, B2, m2, d2, rfl, ho, hb⟩ := h.open_
  replace HB := Lib.hid (bstep HB.out hb)
  replace CW := Lib.hid (CW.out.on hb)
  replace ZC := Lib.hid (ZC.out.on hb)
  replace R1 := Lib.hid (R1.out.on hb)
  replace C1 := Lib.hid (C1.out.on hb)
  have R2 := Lib.hid (out_zero ho)
  clear h ho hb
  clear ht hkk hll wt wk wl
  go_upto_region 7 with fail
  obtain ⟨w6, hw⟩ : ∃ W, w5.alloc (.cells #[.bool b2, .slice A2 n2 c2, .slice B2 m2 d2] 27) = W := ⟨_, rfl⟩
  obtain ⟨gC2, hg⟩ : ∃ g, w5.heap.size = g := ⟨_, rfl⟩
  have hb : Below w5.heap.size w5 w6 := hw ▸ below_alloc _ _
  have C2 : Hid (Rw.Cel w6 gC2 [.bool b2, .slice A2 n2 c2, .slice B2 m2 d2]) := hw ▸ hg ▸ Rw.Cel.new w5 [_, _, _] _
  replace HB := Lib.hid (bstep HB.out hb)
  replace CW := Lib.hid (CW.out.on hb)
  replace ZC := Lib.hid (ZC.out.on hb)
  replace R1 := Lib.hid (R1.out.on hb)
  replace C1 := Lib.hid (C1.out.on hb)
  replace R2 := Lib.hid (R2.out.on hb)
  first | rw [hw, hg] | rw [hw]
  clear hw hg hb
  obtain ⟨x00, x01, x02⟩ := C1.out.three
  obtain ⟨x10, x11, x12⟩ := C2.out.three
  go_wp2_with fail
  refine (KU.out _ _ _ R1.out R2.out).mono ?_
  rintro e w7 h
  obtain ⟨b3, A3, n3, c3, B3, m3, d3, rfl, ho, hb⟩ := h.open_
  replace HB := Lib.hid (bstep HB.out hb)
  replace CW := Lib.hid (CW.out.on hb)
  replace ZC := Lib.hid (ZC.out.on hb)
  replace R1 := Lib.hid (R1.out.on hb)
  replace C1 := Lib.hid (C1.out.on hb)
  replace R2 := Lib.hid (R2.out.on hb)
  replace C2 := Lib.hid (C2.out.on hb)
  have R3 := Lib.hid (out_zero ho)
  clear h ho hb
  clear x00 x01 x02 x10 x11 x12
  obtain ⟨x00, x01, x02⟩ := ZC.out.three
  obtain ⟨v0, v1, v2⟩ := ZC.out.warm3
  go_wp2_with fail
  exact bodyPost_ret (res_r2 Try.results10 rfl (ZC.out.put3 _ _ _)) rfl ⟨_, rfl, OutR.ok (InR.put3 R3.out (cel_root ZC.out) _ _ _), Rw.below_put3 HB.out HZ.out _ _ _⟩
end Go.Proofs.Ytohfaoclemcfaaa.Wet
