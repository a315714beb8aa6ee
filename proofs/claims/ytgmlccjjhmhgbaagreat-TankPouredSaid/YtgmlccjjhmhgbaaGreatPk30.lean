/- Several texts in one: TankT, TankQ, TankG, RowG. -/
import Derived.Test.YtgmlccjjhmhgbaaGreatPk29
import Derived.Test.YtgmlccjjhmhgbaaGreatPk24
import Derived.Test.YtgmlccjjhmhgbaaGreatPk23
/- rats, same, whole of the laws. -/
namespace Go.Proofs.YtgmlccjjhmhgbaaGreat.Tank
open Go.ChangeShapes Go.WideShapes Go.RowKit Go.Lib
open Go.Proofs.YtgmlccjjhmhgbaaGreat.Rw (glt get_lt below_alloc bstep wrap_id below_drewN below_drew drew_below)
set_option linter.unusedVariables false
set_option maxRecDepth 100000

theorem list_ext {α : Type} {L M : List α} (hl : L.length = M.length) (h : ∀ (j : Nat) (s t : α), L[j]? = some s → M[j]? = some t → s = t) : L = M := by
  refine List.ext_getElem? fun j => ?_
  rcases Nat.lt_or_ge j L.length with hj | hj
  · obtain ⟨s, hs⟩ := get_lt hj
    obtain ⟨t, ht⟩ := get_lt (L := M) (k := j) (by omega)
    rw [hs, ht, h j s t hs ht]
  · rw [List.getElem?_eq_none hj, List.getElem?_eq_none (by omega)]
set_option maxHeartbeats 3200000 in
theorem law_rats (L M : List Trip) (A B : Option Addr) (n m c d : Nat) (hn : n = L.length) (hn' : m = M.length) (w : World) (ha : Rats w A L) (hb : Rats w B M) (hm : n ≤ 9223372036854775807) (hm2 : m ≤ 9223372036854775807) :
    Calls Tryz.prog 24 #[.slice A n c, .slice B m d] w fun e w' => e = .returned (.bool (decide (L = M))) ∧ Below w.heap.size w w' := by
  have HA := Lib.hid ha
  have HB := Lib.hid hb
  obtain ⟨P, hP⟩ : ∃ P, decide (L = M) = P := ⟨_, rfl⟩
  rw [hP]
  by_cases hl : n = m
  rotate_left
  · have z1 : ((n : Int) != (m : Int)) = true := by rw [bne, beq_false_of_ne (by omega)]; rfl
    obtain rfl : P = false := by rw [← hP]; exact decide_eq_false fun e => hl (by rw [hn, hn', e])
    clear ha hb hn hn' hP hl
    go_enter Tryz.func24, Tryz.ntmps24
    go_wp2_with fail
    go_ret
    exact ⟨rfl, Below.refl _ _⟩
  subst hl
  have z1 : ((n : Int) != (n : Int)) = false := by simp
  have HN := Lib.hid (And.intro hn hn')
  have HP := Lib.hid hP
  clear ha hb hn hn' hP
  go_enter Tryz.func24, Tryz.ntmps24
  go_wp2_with fail
  go_loopw [5] (fun i wr => ∃ k : Nat, k ≤ n ∧ i = .int .i64 k ∧ (∀ (j : Nat) (s t : Trip), j < k → L[j]? = some s → M[j]? = some t → s = t) ∧ Below w.heap.size w wr) (fun i _ => n - (RowKit.intOf i).toNat)
  case atStart => exact ⟨0, Nat.zero_le _, rfl, fun j s t h => absurd h (by omega), Below.refl _ _⟩
  case round =>
    obtain ⟨k, hk, rfl, hv, hbel⟩ := hrel
    have HV := Lib.hid hv
    have BW := Lib.hid hbel
    clear hv hbel
    rcases Nat.lt_or_ge k n with hlt | hge
    · obtain ⟨s, hs⟩ := get_lt (L := L) (k := k) (by have := HN.out.1; omega)
      obtain ⟨t, ht⟩ := get_lt (L := M) (k := k) (by have := HN.out.2; omega)
      obtain ⟨b1, o1, A1, a1, A2, a2, hA0, hb1, x0, x1, x2, hi1⟩ := Rats.at_ (HA.out.on BW.out) hs
      obtain ⟨b2, o2, B1, c1, B2, c2, hB0, hb2, y0, y1, y2, hi2⟩ := Rats.at_ (HB.out.on BW.out) ht
      subst hA0
      subst hB0
      have i1 : (k : Int) < (n : Int) := by omega
      have i2 : (0 : Int) ≤ (k : Int) := by omega
      have HS := Lib.hid (And.intro hs ht)
      have HI := Lib.hid (And.intro hi1 hi2)
      have KS := Lib.hid fun a b W h k => tk_Same s t a b W h k
      obtain ⟨p, hp⟩ : ∃ p, decide (s = t) = p := ⟨_, rfl⟩
      rw [hp] at KS
      have HPp := Lib.hid hp
      have HK : Hid (∀ W, Below wr.heap.size wr W → (W.cell? ⟨b1, o1 + k * 3, none⟩ = some (.bool s.1) ∧ W.cell? ⟨b1, o1 + k * 3 + 1, none⟩ = some (.slice A1 s.2.1.length a1) ∧ W.cell? ⟨b1, o1 + k * 3 + 2, none⟩ = some (.slice A2 s.2.2.length a2)) ∧ (W.cell? ⟨b2, o2 + k * 3, none⟩ = some (.bool t.1) ∧ W.cell? ⟨b2, o2 + k * 3 + 1, none⟩ = some (.slice B1 t.2.1.length c1) ∧ W.cell? ⟨b2, o2 + k * 3 + 2, none⟩ = some (.slice B2 t.2.2.length c2))) := fun W h =>
        ⟨⟨(h.cell (p := ⟨b1, o1 + k * 3, none⟩) hb1).trans x0, (h.cell (p := ⟨b1, o1 + k * 3 + 1, none⟩) hb1).trans x1, (h.cell (p := ⟨b1, o1 + k * 3 + 2, none⟩) hb1).trans x2⟩, (h.cell (p := ⟨b2, o2 + k * 3, none⟩) hb2).trans y0, (h.cell (p := ⟨b2, o2 + k * 3 + 1, none⟩) hb2).trans y1, (h.cell (p := ⟨b2, o2 + k * 3 + 2, none⟩) hb2).trans y2⟩
      clear hs ht hi1 hi2 hp
      obtain ⟨wq, rfl⟩ : ∃ W, W = wr := ⟨wr, rfl⟩
      go_upto_region 6 with fail
      go_cut [26] from 17 to 25 (fun v wz => v = .bool (!p) ∧ Below wq.heap.size wq wz)
      case first =>
        go_region_held3 (fun W => (W.cell? ⟨b1, o1 + k * 3, none⟩ = some (.bool s.1) ∧ W.cell? ⟨b1, o1 + k * 3 + 1, none⟩ = some (.slice A1 s.2.1.length a1) ∧ W.cell? ⟨b1, o1 + k * 3 + 2, none⟩ = some (.slice A2 s.2.2.length a2)) ∧ (W.cell? ⟨b2, o2 + k * 3, none⟩ = some (.bool t.1) ∧ W.cell? ⟨b2, o2 + k * 3 + 1, none⟩ = some (.slice B1 t.2.1.length c1) ∧ W.cell? ⟨b2, o2 + k * 3 + 2, none⟩ = some (.slice B2 t.2.2.length c2)))
          (first | exact HK.out _ (Below.refl _ _) | exact HK.out _ (drew_below _) | exact HK.out _ (bstep (drew_below _) hb6))
          ((go_at_call 19; (refine (KS.out _ _ _ ?_ ?_).mono ?_); (exact HI.out.1.on (drew_below _)); (exact HI.out.2.on (drew_below _)); rintro e w6 ⟨rfl, hb6⟩))
        all_goals
          go_wp2_with fail
          go_meet
          case rel => exact ⟨rfl, bstep (drew_below _) hb6⟩
      case rest =>
        obtain ⟨rfl, hb7⟩ := hcut
        have B7 := Lib.hid (bstep BW.out hb7)
        clear hb7 x0 x1 x2 y0 y1 y2
        cases p with
        | false =>
          obtain rfl : P = false := by
            rw [← HP.out]
            refine decide_eq_false fun e => ?_
            subst e
            have e1 := HS.out.1
            rw [HS.out.2] at e1; cases e1
            exact absurd rfl (of_decide_eq_false HPp.out)
          go_wp2_with fail
          go_ret
          exact ⟨rfl, B7.out⟩
        | true =>
          have HE := Lib.hid (of_decide_eq_true HPp.out)
          go_wp2_with fail
          go_roundw
          case rel =>
            refine ⟨k + 1, by omega, by go_num, ?_, B7.out⟩
            intro j u v hj hu hv
            rcases Nat.lt_or_eq_of_le (Nat.le_of_lt_succ hj) with h | h
            · exact HV.out j u v h hu hv
            · subst h
              have e1 := HS.out.1
              have e2 := HS.out.2
              rw [hu] at e1; rw [hv] at e2; cases e1; cases e2; exact HE.out
          case measure => simp [RowKit.intOf]; omega
    · obtain rfl : k = n := by omega
      obtain rfl : P = true := by
        rw [← HP.out]
        exact decide_eq_true (list_ext (by rw [← HN.out.1, ← HN.out.2]) fun j s t hs ht => HV.out j s t (by have := glt hs; have := HN.out.1; omega) hs ht)
      go_wp2_with fail
      go_ret
      exact ⟨rfl, BW.out⟩
set_option maxHeartbeats 1600000 in
theorem law_same (cap cap' : Int) (L M : List Trip) (A B : Option Addr) (n m c d : Nat) (hn : n = L.length) (hn' : m = M.length) (w : World) (ha : Rats w A L) (hb : Rats w B M) (hm : n ≤ 9223372036854775807) (hm2 : m ≤ 9223372036854775807) :
    Calls Tryz.prog 16 #[.agg #[.int .i64 cap, .slice A n c], .agg #[.int .i64 cap', .slice B m d]] w fun e w' => e = .returned (.bool (decide (cap = cap') && decide (L = M))) ∧ Below w.heap.size w w' := by
  have HA := Lib.hid ha
  have HB := Lib.hid hb
  have KR := Lib.hid fun (W : World) (h : Rats W A L) (k : Rats W B M) => law_rats L M A B n m c d hn hn' W h k hm hm2
  obtain ⟨P, hP⟩ : ∃ P, decide (L = M) = P := ⟨_, rfl⟩
  rw [hP] at KR ⊢
  clear ha hb hn hn' hP
  by_cases he : cap = cap'
  · subst he
    have z1 : (cap == cap) = true := by simp
    rw [decide_eq_true (rfl : cap = cap), Bool.true_and]
    go_enter Tryz.func16, Tryz.ntmps16
    go_upto_region 1 with fail
    obtain ⟨w0, hw0⟩ : ∃ W, (w.alloc (.cells #[.int .i64 cap, .slice A n c] 24)).alloc (.cells #[.int .i64 cap, .slice B m d] 24) = W := ⟨_, rfl⟩
    have C0 : Hid (Rw.Cel w0 w.heap.size [.int .i64 cap, .slice A n c]) := hw0 ▸ (Rw.Cel.new w [_, _] _).alloc _
    have D0 : Hid (Rw.Cel w0 (w.heap.size + 1) [.int .i64 cap, .slice B m d]) := hw0 ▸ Rw.Cel.new_at _ [_, _] _ (by simp)
    have B0 : Hid (Below w.heap.size w w0) := hw0 ▸ bstep (below_alloc _ _) (below_alloc _ _)
    first | rw [hw0] | skip
    clear hw0
    obtain ⟨x0, x1⟩ := C0.out.two
    obtain ⟨y0, y1⟩ := D0.out.two
    go_wp2_with fail
    refine (KR.out w0 (HA.out.on B0.out) (HB.out.on B0.out)).mono ?_
    rintro e w1 ⟨rfl, hb⟩
    have B1 := Lib.hid (bstep B0.out hb)
    clear hb
    go_wp2_with fail
    go_ret
    exact ⟨rfl, B1.out⟩
  · have z1 : (cap == cap') = false := beq_false_of_ne he
    rw [decide_eq_false he, Bool.false_and]
    clear he
    go_enter Tryz.func16, Tryz.ntmps16
    go_upto_region 1 with fail
    obtain ⟨w0, hw0⟩ : ∃ W, (w.alloc (.cells #[.int .i64 cap, .slice A n c] 24)).alloc (.cells #[.int .i64 cap', .slice B m d] 24) = W := ⟨_, rfl⟩
    have C0 : Hid (Rw.Cel w0 w.heap.size [.int .i64 cap, .slice A n c]) := hw0 ▸ (Rw.Cel.new w [_, _] _).alloc _
    have D0 : Hid (Rw.Cel w0 (w.heap.size + 1) [.int .i64 cap', .slice B m d]) := hw0 ▸ Rw.Cel.new_at _ [_, _] _ (by simp)
    have B0 : Hid (Below w.heap.size w w0) := hw0 ▸ bstep (below_alloc _ _) (below_alloc _ _)
    first | rw [hw0] | skip
    clear hw0
    obtain ⟨x0, x1⟩ := C0.out.two
    obtain ⟨y0, y1⟩ := D0.out.two
    go_wp2_with fail
    go_ret
    exact ⟨rfl, B0.out⟩
set_option maxHeartbeats 800000 in
theorem law_whole (n : Int) (h0 : 0 ≤ n) (h1 : n ≤ 1099511627776) (w : World) :
    Calls Tryz.prog 33 #[.int .i64 n] w fun e w' => ∃ v, e = .returned v ∧ IsR w' v (qI n) ∧ Below w.heap.size w w' := by
  have KO := Lib.hid fun W => x_Of n h0 h1 W
  clear h0 h1
  go_enter Tryz.func33, Tryz.ntmps33
  go_upto_region 1 with fail
  obtain ⟨w0, hw0⟩ : ∃ W, w.alloc (.cells #[.bool false, .slice none 0 0, .slice none 0 0] 33) = W := ⟨_, rfl⟩
  have C0 : Hid (Rw.Cel w0 w.heap.size [.bool false, .slice none 0 0, .slice none 0 0]) := hw0 ▸ Rw.Cel.new w [_, _, _] _
  have B0 : Hid (Below w.heap.size w w0) := hw0 ▸ below_alloc _ _
  rw [hw0]
  clear hw0
  go_wp2_with fail
  refine (KO.out w0).mono ?_
  rintro e w1 h
  obtain ⟨b, A, n1, c, B, m, d, rfl, ho, hb⟩ := h.open_
  have HO := Lib.hid (ho.zero rfl)
  have B1 := Lib.hid (bstep B0.out hb)
  have C1 := Lib.hid (C0.out.on hb)
  clear h ho hb
  go_upto_region 2 with fail
  obtain ⟨w2, hw2⟩ : ∃ W, w1.alloc (.cells #[.bool b, .slice A n1 c, .slice B m d] 33) = W := ⟨_, rfl⟩
  have b2 : Below w1.heap.size w1 w2 := hw2 ▸ below_alloc _ _
  have C2 := Lib.hid (C1.out.on b2)
  have D2 : Hid (Rw.Cel w2 w1.heap.size [.bool b, .slice A n1 c, .slice B m d]) := hw2 ▸ Rw.Cel.new w1 [_, _, _] _
  have B2 := Lib.hid (bstep B1.out b2)
  replace HO := Lib.hid (HO.out.on b2)
  rw [hw2]
  clear hw2 b2
  obtain ⟨x0, x1, x2⟩ := C2.out.three
  obtain ⟨y0, y1, y2⟩ := C2.out.warm3
  obtain ⟨u0, u1, u2⟩ := D2.out.three
  go_wp2_with fail
  exact bodyPost_ret (res_rat Tryz.results33 rfl (C2.out.put3 _ _ _)) rfl ⟨_, rfl, InR.put3 HO.out (cel_root C2.out) _ _ _, Rw.below_put3 B2.out (Nat.le_refl _) _ _ _⟩
end Go.Proofs.YtgmlccjjhmhgbaaGreat.Tank
/- The chapter's example (gen17/q.py). -/
namespace Go.Proofs.YtgmlccjjhmhgbaaGreat.Tank
open Go.ChangeShapes Go.WideShapes Go.RowKit Go.Lib
open Go.Proofs.YtgmlccjjhmhgbaaGreat.Mem (Cl eI Own)
open Go.Proofs.YtgmlccjjhmhgbaaGreat.Rw (glt get_lt below_alloc bstep wrap_id below_drewN below_drew drew_below)
set_option linter.unusedVariables false
set_option maxRecDepth 100000

/-- Two numbers in a literal. -/
theorem lit_rats2 {w : World} {T : TypeId} {b b' : Bool} {A1 B1 A2 B2 : Option Addr} {n1 c1 m1 d1 n2 c2 m2 d2 : Nat} {t u : Trip} (h : InR w (.agg #[.bool b, .slice A1 n1 c1, .slice B1 m1 d1]) t.1 t.2.1 t.2.2) (k : InR w (.agg #[.bool b', .slice A2 n2 c2, .slice B2 m2 d2]) u.1 u.2.1 u.2.2) {g : Nat} (hg : w.heap.size = g) :
    Rats (w.alloc (.cells #[.bool b, .slice A1 n1 c1, .slice B1 m1 d1, .bool b', .slice A2 n2 c2, .slice B2 m2 d2] T)) (some ⟨g, 0, none⟩) [t, u] := by
  subst hg
  have hc := Rw.Cel.new w [.bool b, .slice A1 n1 c1, .slice B1 m1 d1, .bool b', .slice A2 n2 c2, .slice B2 m2 d2] T
  have hb := below_alloc w (.cells #[.bool b, .slice A1 n1 c1, .slice B1 m1 d1, .bool b', .slice A2 n2 c2, .slice B2 m2 d2] T)
  obtain ⟨e1, i1, i2⟩ := inR_cells h
  obtain ⟨e2, j1, j2⟩ := inR_cells k
  obtain ⟨X1, x1, f1, -⟩ := in_open i1
  obtain ⟨X2, x2, f2, -⟩ := in_open i2
  obtain ⟨Y1, y1, f3, -⟩ := in_open j1
  obtain ⟨Y2, y2, f4, -⟩ := in_open j2
  have hn1 := (Value.slice.inj f1).2.1
  have hn2 := (Value.slice.inj f2).2.1
  have hn3 := (Value.slice.inj f3).2.1
  have hn4 := (Value.slice.inj f4).2.1
  intro i s hs
  match i, hs with
  | 0, hs =>
    simp at hs; subst hs
    exact ⟨_, 0, A1, c1, B1, d1, rfl, hc.lt, ⟨by rw [← e1]; exact hc.at_ 0 _ rfl, by rw [← hn1]; exact hc.at_ 1 _ rfl, by rw [← hn2]; exact hc.at_ 2 _ rfl⟩, by rw [← hn1]; exact i1.on hb, by rw [← hn2]; exact i2.on hb⟩
  | 1, hs =>
    simp at hs; subst hs
    exact ⟨_, 0, A2, c2, B2, d2, rfl, hc.lt, ⟨by rw [← e2]; exact hc.at_ 3 _ rfl, by rw [← hn3]; exact hc.at_ 4 _ rfl, by rw [← hn4]; exact hc.at_ 5 _ rfl⟩, by rw [← hn3]; exact j1.on hb, by rw [← hn4]; exact j2.on hb⟩
theorem lit_two (w : World) (x y : Int) (T : TypeId) {g : Nat} (hg : w.heap.size = g) : Cl eI (w.alloc (.cells #[.int .i64 x, .int .i64 y] T)) (some ⟨g, 0, none⟩) [x, y] := by
  subst hg
  have hc := Rw.Cel.new w [.int .i64 x, .int .i64 y] T
  intro i s hs
  match i, hs with
  | 0, hs => simp at hs; subst hs; exact ⟨_, 0, rfl, hc.lt, hc.at_ 0 _ rfl⟩
  | 1, hs => simp at hs; subst hs; exact ⟨_, 0, rfl, hc.lt, hc.at_ 1 _ rfl⟩
theorem isR_open {w : World} {v : Value} {r : Rat} (h : IsR w v r) : ∃ b A n c B m d, v = .agg #[.bool b, .slice A n c, .slice B m d] ∧ IsR w (.agg #[.bool b, .slice A n c, .slice B m d]) r := by
  obtain ⟨A, c, B, d, rfl, -, -⟩ := inR_open h
  exact ⟨_, _, _, _, _, _, _, rfl, h⟩
abbrev L0 : List Trip := [(false, [10], [1]), (false, [5], [1])]
abbrev L1 : List Trip := [(false, [8], [3]), (false, [4], [3])]
abbrev L2 : List Trip := [(false, [22], [3]), (false, [11], [3])]
abbrev L3 : List Trip := [(false, [], [1]), (false, [], [1])]
theorem aw_draw : drE 100 L0 4 = 0 ∧ drC 100 L0 4 = 100 ∧ drT 100 L0 4 = L1 ∧ drP 100 L0 4 = L2 := by decide +kernel
theorem aw_part : paE 100 L2 0 = 0 ∧ triR (paV L2 0) = (false, [2], [3]) := by decide +kernel
theorem aw_new : nwE 2 100 = 0 ∧ nwC 2 100 = 100 ∧ nwL 2 100 = L3 := by decide +kernel
theorem aw_fill : filE 100 L3 [10, 5] = 0 ∧ filC 100 L3 [10, 5] = 100 ∧ filL 100 L3 [10, 5] = L0 := by decide +kernel
theorem aw_make : (mkE 8 3 = 0 ∧ triR (mkV 8 3) = (false, [8], [3])) ∧ (mkE 4 3 = 0 ∧ triR (mkV 4 3) = (false, [4], [3])) ∧ (mkE 2 3 = 0 ∧ triR (mkV 2 3) = (false, [2], [3])) := by decide +kernel
theorem aw_whole : triR (qI 10) = (false, [10], [1]) ∧ triR (qI 5) = (false, [5], [1]) := by decide +kernel
theorem isR_tri {w : World} {v : Value} {r : Rat} (h : IsR w v r) {t : Trip} (e : triR r = t) : InR w v t.1 t.2.1 t.2.2 := e ▸ h
set_option maxHeartbeats 6400000 in
theorem law_awake (w : World) :
    Calls Tryz.prog 11 #[] w fun e w' => e = .returned (.bool true) ∧ Below w.heap.size w w' := by
  have KW := Lib.hid fun (n : Int) (h0 : 0 ≤ n) (h1 : n ≤ 1099511627776) W => law_whole n h0 h1 W
  have KD := Lib.hid fun A c (W : World) (h : Rats W A L0) => p_Draw 100 L0 A 2 c rfl 4 W h (by decide)
  have KP := Lib.hid fun A c (W : World) (h : Rats W A L2) => p_Part 100 L2 A 2 c rfl 0 W h (by decide)
  have KN := Lib.hid fun W => p_New 2 100 W
  have KF := Lib.hid fun A c B (W : World) (h : Rats W A L3) (k : Cl eI W B [10, 5]) => p_Fill 100 L3 A 2 c rfl [10, 5] B 2 2 rfl W h k (by decide) (by decide)
  have KM := Lib.hid fun p q W h1 h2 h3 h4 => ref_Make3 p q W h1 h2 h3 h4
  rw [aw_draw.1, aw_draw.2.1, aw_draw.2.2.1, aw_draw.2.2.2] at KD
  rw [aw_part.1] at KP
  rw [aw_new.1, aw_new.2.1, aw_new.2.2] at KN
  rw [aw_fill.1, aw_fill.2.1, aw_fill.2.2] at KF
  have HB := Lib.hid (Below.refl w.heap.size w)
  go_enter Tryz.func11, Tryz.ntmps11
  go_wp2_with fail
  refine (KW.out 10 (by decide) (by decide) w).mono ?_
  rintro e w1 ⟨v1, rfl, hv, hb⟩
  obtain ⟨ba, Aa, na, ca, Ba, ma, da, rfl, hv⟩ := isR_open hv
  have VA := Lib.hid (isR_tri hv aw_whole.1)
  replace HB := Lib.hid (bstep HB.out hb)
  clear hv hb
  go_wp2_with fail
  refine (KW.out 5 (by decide) (by decide) w1).mono ?_
  rintro e w2 ⟨v2, rfl, hv, hb⟩
  obtain ⟨bb, Ab, nb, cb, Bb, mb, db, rfl, hv⟩ := isR_open hv
  have VB := Lib.hid (isR_tri hv aw_whole.2)
  replace HB := Lib.hid (bstep HB.out hb)
  replace VA := Lib.hid (VA.out.on hb)
  clear hv hb
  go_upto_region 2 with fail
  obtain ⟨g0, hg0⟩ : ∃ g, w2.heap.size = g := ⟨_, rfl⟩
  obtain ⟨w3, hw⟩ : ∃ W, w2.alloc (.cells #[.bool ba, .slice Aa na ca, .slice Ba ma da, .bool bb, .slice Ab nb cb, .slice Bb mb db] 33) = W := ⟨_, rfl⟩
  have RT : Hid (Rats w3 (some ⟨g0, 0, none⟩) L0) := hw ▸ lit_rats2 VA.out VB.out hg0
  have hb : Below w2.heap.size w2 w3 := hw ▸ below_alloc _ _
  have hsz : w3.heap.size = g0 + 1 := by rw [← hw, ← hg0]; simp
  replace HB := Lib.hid (bstep HB.out hb)
  have HSZ := Lib.hid hsz
  rw [hg0, hw]
  clear hw hb hg0 VA VB hsz
  obtain ⟨w4, hw⟩ : ∃ W, w3.alloc (.cells #[.int .i64 100, .slice (some ⟨g0, 0, none⟩) 2 2] 24) = W := ⟨_, rfl⟩
  have CT : Hid (Rw.Cel w4 (g0 + 1) [.int .i64 100, .slice (some ⟨g0, 0, none⟩) 2 2]) := hw ▸ Rw.Cel.new_at w3 [_, _] _ HSZ.out
  have hb : Below w3.heap.size w3 w4 := hw ▸ below_alloc _ _
  replace HB := Lib.hid (bstep HB.out hb)
  replace RT := Lib.hid (Rats.on RT.out hb)
  rw [hw]
  clear hw hb HSZ
  obtain ⟨x0, x1⟩ := CT.out.two
  go_wp2_with fail
  refine (KD.out _ _ _ RT.out).mono ?_
  rintro e w5 ⟨v, A2, n2, c2, rfl, hT, hn, hm, hr, hb⟩
  obtain ⟨A1, c1, rfl, hl1, hr1⟩ := hT
  obtain rfl : 2 = n2 := hn.symm
  rw [show L2.length = 2 from rfl]
  have RX := Lib.hid hr1
  have RL := Lib.hid hr
  replace HB := Lib.hid (bstep HB.out hb)
  replace RT := Lib.hid (Rats.on RT.out hb)
  replace CT := Lib.hid (CT.out.on hb)
  clear hn hm hr hb hl1 hr1 x0 x1
  go_upto_region 3 with fail
  obtain ⟨w6, hw⟩ : ∃ W, w5.alloc (.cells #[.int .i64 100, .slice A1 2 c1] 24) = W := ⟨_, rfl⟩
  obtain ⟨gCX, hg⟩ : ∃ g, w5.heap.size = g := ⟨_, rfl⟩
  have hb : Below w5.heap.size w5 w6 := hw ▸ below_alloc _ _
  have CX : Hid (Rw.Cel w6 gCX [.int .i64 100, .slice A1 2 c1]) := hw ▸ hg ▸ Rw.Cel.new w5 [_, _] _
  replace HB := Lib.hid (bstep HB.out hb)
  replace RT := Lib.hid (Rats.on RT.out hb)
  replace CT := Lib.hid (CT.out.on hb)
  replace RX := Lib.hid (Rats.on RX.out hb)
  replace RL := Lib.hid (Rats.on RL.out hb)
  rw [hw, hg]
  clear hw hg hb
  obtain ⟨x0, x1⟩ := CX.out.two
  go_wp2_with fail
  refine (KP.out _ _ _ RX.out).mono ?_
  rintro e w7 h
  obtain ⟨bp, Ap, np, cp, Bp, mp, dp, rfl, ho, hb⟩ := RRes.op h
  have VP := Lib.hid (isR_tri (ho.zero rfl) aw_part.2)
  replace HB := Lib.hid (bstep HB.out hb)
  replace RT := Lib.hid (Rats.on RT.out hb)
  replace CT := Lib.hid (CT.out.on hb)
  replace RX := Lib.hid (Rats.on RX.out hb)
  replace RL := Lib.hid (Rats.on RL.out hb)
  replace CX := Lib.hid (CX.out.on hb)
  clear h ho hb x0 x1
  go_upto_region 4 with fail
  obtain ⟨w8, hw⟩ : ∃ W, w7.alloc (.cells #[.bool bp, .slice Ap np cp, .slice Bp mp dp] 33) = W := ⟨_, rfl⟩
  obtain ⟨gCP, hg⟩ : ∃ g, w7.heap.size = g := ⟨_, rfl⟩
  have hb : Below w7.heap.size w7 w8 := hw ▸ below_alloc _ _
  have CP : Hid (Rw.Cel w8 gCP [.bool bp, .slice Ap np cp, .slice Bp mp dp]) := hw ▸ hg ▸ Rw.Cel.new w7 [_, _, _] _
  replace HB := Lib.hid (bstep HB.out hb)
  replace RT := Lib.hid (Rats.on RT.out hb)
  replace CT := Lib.hid (CT.out.on hb)
  replace RX := Lib.hid (Rats.on RX.out hb)
  replace RL := Lib.hid (Rats.on RL.out hb)
  replace CX := Lib.hid (CX.out.on hb)
  replace VP := Lib.hid (VP.out.on hb)
  rw [hw, hg]
  clear hw hg hb
  go_wp2_with fail
  refine (KN.out _).mono ?_
  rintro e w9 ⟨v, rfl, hT, hb⟩
  obtain ⟨A3, c3, rfl, hl3, hr3⟩ := hT
  rw [show L3.length = 2 from rfl]
  have RN := Lib.hid hr3
  replace HB := Lib.hid (bstep HB.out hb)
  replace RT := Lib.hid (Rats.on RT.out hb)
  replace CT := Lib.hid (CT.out.on hb)
  replace RX := Lib.hid (Rats.on RX.out hb)
  replace RL := Lib.hid (Rats.on RL.out hb)
  replace CX := Lib.hid (CX.out.on hb)
  replace VP := Lib.hid (VP.out.on hb)
  replace CP := Lib.hid (CP.out.on hb)
  clear hb hl3 hr3
  go_upto_region 5 with fail
  obtain ⟨w10, hw⟩ : ∃ W, w9.alloc (.cells #[.int .i64 100, .slice A3 2 c3] 24) = W := ⟨_, rfl⟩
  obtain ⟨gCN, hg⟩ : ∃ g, w9.heap.size = g := ⟨_, rfl⟩
  have hb : Below w9.heap.size w9 w10 := hw ▸ below_alloc _ _
  have CN : Hid (Rw.Cel w10 gCN [.int .i64 100, .slice A3 2 c3]) := hw ▸ hg ▸ Rw.Cel.new w9 [_, _] _
  replace HB := Lib.hid (bstep HB.out hb)
  replace RT := Lib.hid (Rats.on RT.out hb)
  replace CT := Lib.hid (CT.out.on hb)
  replace RX := Lib.hid (Rats.on RX.out hb)
  replace RL := Lib.hid (Rats.on RL.out hb)
  replace CX := Lib.hid (CX.out.on hb)
  replace VP := Lib.hid (VP.out.on hb)
  replace CP := Lib.hid (CP.out.on hb)
  replace RN := Lib.hid (Rats.on RN.out hb)
  rw [hw, hg]
  clear hw hg hb
  obtain ⟨x0, x1⟩ := CN.out.two
  go_wp2_with fail
  refine (KF.out _ _ _ _ (Rats.on RN.out (below_alloc _ _)) (lit_two w10 10 5 _ rfl)).mono ?_
  rintro e w11 ⟨v, rfl, hT, hb⟩
  obtain ⟨A4, c4, rfl, hl4, hr4⟩ := hT
  rw [show L0.length = 2 from rfl]
  have RU := Lib.hid hr4
  have hb := bstep (below_alloc _ _) hb
  replace HB := Lib.hid (bstep HB.out hb)
  replace RT := Lib.hid (Rats.on RT.out hb)
  replace CT := Lib.hid (CT.out.on hb)
  replace RX := Lib.hid (Rats.on RX.out hb)
  replace RL := Lib.hid (Rats.on RL.out hb)
  replace CX := Lib.hid (CX.out.on hb)
  replace VP := Lib.hid (VP.out.on hb)
  replace CP := Lib.hid (CP.out.on hb)
  replace RN := Lib.hid (Rats.on RN.out hb)
  replace CN := Lib.hid (CN.out.on hb)
  clear hb hl4 hr4 x0 x1
  go_upto_region 6 with fail
  obtain ⟨w12, hw⟩ : ∃ W, w11.alloc (.cells #[.int .i64 100, .slice A4 2 c4] 24) = W := ⟨_, rfl⟩
  obtain ⟨gCU, hg⟩ : ∃ g, w11.heap.size = g := ⟨_, rfl⟩
  have hb : Below w11.heap.size w11 w12 := hw ▸ below_alloc _ _
  have CU : Hid (Rw.Cel w12 gCU [.int .i64 100, .slice A4 2 c4]) := hw ▸ hg ▸ Rw.Cel.new w11 [_, _] _
  replace HB := Lib.hid (bstep HB.out hb)
  replace RT := Lib.hid (Rats.on RT.out hb)
  replace CT := Lib.hid (CT.out.on hb)
  replace RX := Lib.hid (Rats.on RX.out hb)
  replace RL := Lib.hid (Rats.on RL.out hb)
  replace CX := Lib.hid (CX.out.on hb)
  replace VP := Lib.hid (VP.out.on hb)
  replace CP := Lib.hid (CP.out.on hb)
  replace RN := Lib.hid (Rats.on RN.out hb)
  replace CN := Lib.hid (CN.out.on hb)
  replace RU := Lib.hid (Rats.on RU.out hb)
  rw [hw, hg]
  clear hw hg hb
  have km := KM.out 8 3 w12 (by decide) (by decide) (by decide) (by decide)
  rw [aw_make.1.1] at km
  go_wp2_with fail
  refine km.mono ?_
  rintro e w13 h
  obtain ⟨b0, M0, n0', c0', N0, m0', d0', rfl, ho, hb⟩ := RRes.op h
  have VM := Lib.hid (isR_tri (ho.zero rfl) aw_make.1.2)
  replace HB := Lib.hid (bstep HB.out hb)
  replace RT := Lib.hid (Rats.on RT.out hb)
  replace CT := Lib.hid (CT.out.on hb)
  replace RX := Lib.hid (Rats.on RX.out hb)
  replace RL := Lib.hid (Rats.on RL.out hb)
  replace CX := Lib.hid (CX.out.on hb)
  replace VP := Lib.hid (VP.out.on hb)
  replace CP := Lib.hid (CP.out.on hb)
  replace RN := Lib.hid (Rats.on RN.out hb)
  replace CN := Lib.hid (CN.out.on hb)
  replace RU := Lib.hid (Rats.on RU.out hb)
  replace CU := Lib.hid (CU.out.on hb)
  clear h ho hb km
  go_upto_region 7 with fail
  obtain ⟨w14, hw⟩ : ∃ W, w13.alloc (.cells #[.bool b0, .slice M0 n0' c0', .slice N0 m0' d0'] 33) = W := ⟨_, rfl⟩
  obtain ⟨gCM, hg⟩ : ∃ g, w13.heap.size = g := ⟨_, rfl⟩
  have hb : Below w13.heap.size w13 w14 := hw ▸ below_alloc _ _
  have CM : Hid (Rw.Cel w14 gCM [.bool b0, .slice M0 n0' c0', .slice N0 m0' d0']) := hw ▸ hg ▸ Rw.Cel.new w13 [_, _, _] _
  replace HB := Lib.hid (bstep HB.out hb)
  replace RT := Lib.hid (Rats.on RT.out hb)
  replace CT := Lib.hid (CT.out.on hb)
  replace RX := Lib.hid (Rats.on RX.out hb)
  replace RL := Lib.hid (Rats.on RL.out hb)
  replace CX := Lib.hid (CX.out.on hb)
  replace VP := Lib.hid (VP.out.on hb)
  replace CP := Lib.hid (CP.out.on hb)
  replace RN := Lib.hid (Rats.on RN.out hb)
  replace CN := Lib.hid (CN.out.on hb)
  replace RU := Lib.hid (Rats.on RU.out hb)
  replace CU := Lib.hid (CU.out.on hb)
  replace VM := Lib.hid (VM.out.on hb)
  rw [hw, hg]
  clear hw hg hb
  have km := KM.out 4 3 w14 (by decide) (by decide) (by decide) (by decide)
  rw [aw_make.2.1.1] at km
  go_wp2_with fail
  refine km.mono ?_
  rintro e w15 h
  obtain ⟨b1, M1, n1', c1', N1, m1', d1', rfl, ho, hb⟩ := RRes.op h
  have VO := Lib.hid (isR_tri (ho.zero rfl) aw_make.2.1.2)
  replace HB := Lib.hid (bstep HB.out hb)
  replace RT := Lib.hid (Rats.on RT.out hb)
  replace CT := Lib.hid (CT.out.on hb)
  replace RX := Lib.hid (Rats.on RX.out hb)
  replace RL := Lib.hid (Rats.on RL.out hb)
  replace CX := Lib.hid (CX.out.on hb)
  replace VP := Lib.hid (VP.out.on hb)
  replace CP := Lib.hid (CP.out.on hb)
  replace RN := Lib.hid (Rats.on RN.out hb)
  replace CN := Lib.hid (CN.out.on hb)
  replace RU := Lib.hid (Rats.on RU.out hb)
  replace CU := Lib.hid (CU.out.on hb)
  replace VM := Lib.hid (VM.out.on hb)
  replace CM := Lib.hid (CM.out.on hb)
  clear h ho hb km
  go_upto_region 8 with fail
  obtain ⟨w16, hw⟩ : ∃ W, w15.alloc (.cells #[.bool b1, .slice M1 n1' c1', .slice N1 m1' d1'] 33) = W := ⟨_, rfl⟩
  obtain ⟨gCO, hg⟩ : ∃ g, w15.heap.size = g := ⟨_, rfl⟩
  have hb : Below w15.heap.size w15 w16 := hw ▸ below_alloc _ _
  have CO : Hid (Rw.Cel w16 gCO [.bool b1, .slice M1 n1' c1', .slice N1 m1' d1']) := hw ▸ hg ▸ Rw.Cel.new w15 [_, _, _] _
  replace HB := Lib.hid (bstep HB.out hb)
  replace RT := Lib.hid (Rats.on RT.out hb)
  replace CT := Lib.hid (CT.out.on hb)
  replace RX := Lib.hid (Rats.on RX.out hb)
  replace RL := Lib.hid (Rats.on RL.out hb)
  replace CX := Lib.hid (CX.out.on hb)
  replace VP := Lib.hid (VP.out.on hb)
  replace CP := Lib.hid (CP.out.on hb)
  replace RN := Lib.hid (Rats.on RN.out hb)
  replace CN := Lib.hid (CN.out.on hb)
  replace RU := Lib.hid (Rats.on RU.out hb)
  replace CU := Lib.hid (CU.out.on hb)
  replace VM := Lib.hid (VM.out.on hb)
  replace CM := Lib.hid (CM.out.on hb)
  replace VO := Lib.hid (VO.out.on hb)
  rw [hw, hg]
  clear hw hg hb
  have km := KM.out 2 3 w16 (by decide) (by decide) (by decide) (by decide)
  rw [aw_make.2.2.1] at km
  go_wp2_with fail
  refine km.mono ?_
  rintro e w17 h
  obtain ⟨b2, M2, n2', c2', N2, m2', d2', rfl, ho, hb⟩ := RRes.op h
  have VQ := Lib.hid (isR_tri (ho.zero rfl) aw_make.2.2.2)
  replace HB := Lib.hid (bstep HB.out hb)
  replace RT := Lib.hid (Rats.on RT.out hb)
  replace CT := Lib.hid (CT.out.on hb)
  replace RX := Lib.hid (Rats.on RX.out hb)
  replace RL := Lib.hid (Rats.on RL.out hb)
  replace CX := Lib.hid (CX.out.on hb)
  replace VP := Lib.hid (VP.out.on hb)
  replace CP := Lib.hid (CP.out.on hb)
  replace RN := Lib.hid (Rats.on RN.out hb)
  replace CN := Lib.hid (CN.out.on hb)
  replace RU := Lib.hid (Rats.on RU.out hb)
  replace CU := Lib.hid (CU.out.on hb)
  replace VM := Lib.hid (VM.out.on hb)
  replace CM := Lib.hid (CM.out.on hb)
  replace VO := Lib.hid (VO.out.on hb)
  replace CO := Lib.hid (CO.out.on hb)
  clear h ho hb km
  go_upto_region 9 with fail
  obtain ⟨w18, hw⟩ : ∃ W, w17.alloc (.cells #[.bool b2, .slice M2 n2' c2', .slice N2 m2' d2'] 33) = W := ⟨_, rfl⟩
  obtain ⟨gCQ, hg⟩ : ∃ g, w17.heap.size = g := ⟨_, rfl⟩
  have hb : Below w17.heap.size w17 w18 := hw ▸ below_alloc _ _
  have CQ : Hid (Rw.Cel w18 gCQ [.bool b2, .slice M2 n2' c2', .slice N2 m2' d2']) := hw ▸ hg ▸ Rw.Cel.new w17 [_, _, _] _
  replace HB := Lib.hid (bstep HB.out hb)
  replace RT := Lib.hid (Rats.on RT.out hb)
  replace CT := Lib.hid (CT.out.on hb)
  replace RX := Lib.hid (Rats.on RX.out hb)
  replace RL := Lib.hid (Rats.on RL.out hb)
  replace CX := Lib.hid (CX.out.on hb)
  replace VP := Lib.hid (VP.out.on hb)
  replace CP := Lib.hid (CP.out.on hb)
  replace RN := Lib.hid (Rats.on RN.out hb)
  replace CN := Lib.hid (CN.out.on hb)
  replace RU := Lib.hid (Rats.on RU.out hb)
  replace CU := Lib.hid (CU.out.on hb)
  replace VM := Lib.hid (VM.out.on hb)
  replace CM := Lib.hid (CM.out.on hb)
  replace VO := Lib.hid (VO.out.on hb)
  replace CO := Lib.hid (CO.out.on hb)
  replace VQ := Lib.hid (VQ.out.on hb)
  rw [hw, hg]
  clear hw hg hb
  obtain ⟨x0, x1, x2⟩ := CM.out.three
  obtain ⟨y0, y1, y2⟩ := CO.out.three
  go_wp2_with fail
  refine (law_rats L1 L1 A2 (some ⟨w18.heap.size, 0, none⟩) 2 2 c2 2 rfl rfl _ (Rats.on RL.out (below_alloc _ _)) (lit_rats2 VM.out VO.out rfl) (by decide) (by decide)).mono ?_
  rintro e w19 ⟨rfl, hb⟩
  rw [decide_eq_true (rfl : L1 = L1)]
  have hb := bstep (below_alloc _ _) hb
  replace HB := Lib.hid (bstep HB.out hb)
  replace RT := Lib.hid (Rats.on RT.out hb)
  replace CT := Lib.hid (CT.out.on hb)
  replace RX := Lib.hid (Rats.on RX.out hb)
  replace RL := Lib.hid (Rats.on RL.out hb)
  replace CX := Lib.hid (CX.out.on hb)
  replace VP := Lib.hid (VP.out.on hb)
  replace CP := Lib.hid (CP.out.on hb)
  replace RN := Lib.hid (Rats.on RN.out hb)
  replace CN := Lib.hid (CN.out.on hb)
  replace RU := Lib.hid (Rats.on RU.out hb)
  replace CU := Lib.hid (CU.out.on hb)
  replace VM := Lib.hid (VM.out.on hb)
  replace CM := Lib.hid (CM.out.on hb)
  replace VO := Lib.hid (VO.out.on hb)
  replace CO := Lib.hid (CO.out.on hb)
  replace VQ := Lib.hid (VQ.out.on hb)
  replace CQ := Lib.hid (CQ.out.on hb)
  clear hb x0 x1 x2 y0 y1 y2
  obtain ⟨x0, x1, x2⟩ := CP.out.three
  obtain ⟨y0, y1, y2⟩ := CQ.out.three
  go_wp2_with fail
  refine (tk_Same (false, [2], [3]) (false, [2], [3]) _ _ w19 VP.out VQ.out).mono ?_
  rintro e w20 ⟨rfl, hb⟩
  rw [decide_eq_true (rfl : ((false, [2], [3]) : Trip) = (false, [2], [3]))]
  replace HB := Lib.hid (bstep HB.out hb)
  replace RT := Lib.hid (Rats.on RT.out hb)
  replace CT := Lib.hid (CT.out.on hb)
  replace RX := Lib.hid (Rats.on RX.out hb)
  replace RL := Lib.hid (Rats.on RL.out hb)
  replace CX := Lib.hid (CX.out.on hb)
  replace VP := Lib.hid (VP.out.on hb)
  replace CP := Lib.hid (CP.out.on hb)
  replace RN := Lib.hid (Rats.on RN.out hb)
  replace CN := Lib.hid (CN.out.on hb)
  replace RU := Lib.hid (Rats.on RU.out hb)
  replace CU := Lib.hid (CU.out.on hb)
  replace VM := Lib.hid (VM.out.on hb)
  replace CM := Lib.hid (CM.out.on hb)
  replace VO := Lib.hid (VO.out.on hb)
  replace CO := Lib.hid (CO.out.on hb)
  replace VQ := Lib.hid (VQ.out.on hb)
  replace CQ := Lib.hid (CQ.out.on hb)
  clear hb x0 x1 x2 y0 y1 y2
  obtain ⟨x0, x1⟩ := CT.out.two
  obtain ⟨y0, y1⟩ := CU.out.two
  go_wp2_with fail
  refine (law_same 100 100 L0 L0 (some ⟨g0, 0, none⟩) A4 2 2 2 c4 rfl rfl w20 RT.out RU.out (by decide) (by decide)).mono ?_
  rintro e w21 ⟨rfl, hb⟩
  rw [decide_eq_true (rfl : (100 : Int) = 100), decide_eq_true (rfl : L0 = L0)]
  have HF := Lib.hid (bstep HB.out hb)
  clear hb
  go_wp2_with fail
  go_ret
  exact ⟨rfl, HF.out⟩
end Go.Proofs.YtgmlccjjhmhgbaaGreat.Tank
/- taken of the reference. -/
namespace Go.Proofs.YtgmlccjjhmhgbaaGreat.Tank
open Go.ChangeShapes Go.WideShapes Go.RowKit Go.Lib
open Go.Proofs.YtgmlccjjhmhgbaaGreat.Rw (glt get_lt below_alloc bstep wrap_id below_drewN below_drew drew_below)
set_option linter.unusedVariables false
set_option maxRecDepth 100000

theorem res_two {fn : Func} {p q u : Tmp} (h : fn.results = #[.cell p 33, .cell q 33, .tmp u]) {tmps : Array Value} {w : World} {g k : Nat} {u0 u1 u2 v0 v1 v2 : Value} (hp : tmps.getD p undef = .pointer (some ⟨g, 0, none⟩)) (hq : tmps.getD q undef = .pointer (some ⟨k, 0, none⟩))
    (hc : Rw.Cel w g [u0, u1, u2]) (hd : Rw.Cel w k [v0, v1, v2]) : (results fn tmps).run Tryz.prog w = .ok (.tuple #[.agg #[u0, u1, u2], .agg #[v0, v1, v2], tmps.getD u undef]) w := by
  have hp' : tmps[p]?.getD undef = .pointer (some ⟨g, 0, none⟩) := by simpa using hp
  have hq' : tmps[q]?.getD undef = .pointer (some ⟨k, 0, none⟩) := by simpa using hq
  obtain ⟨h0, h1, h2⟩ := hc.three
  obtain ⟨k0, k1, k2⟩ := hd.three
  simp [results, h, hp', hq', go_sem, h0, h1, h2, k0, k1, k2]
/-- Two numbers and an error. -/
def TkP (w : World) (err : Int) (r s : Rat) (e : Ending) (w' : World) : Prop :=
  ∃ x y, e = .returned (.tuple #[x, y, .int .i64 err]) ∧ OutR w' x err r ∧ OutR w' y err s ∧ Below w.heap.size w w'
theorem far3 {w : World} {g k : Nat} {us : List Value} (h : Rw.Cel w g us) (hne : k ≠ g) (x y z : Value) : Rw.Cel (((w.setCell ⟨k, 0, none⟩ x).setCell ⟨k, 1, none⟩ y).setCell ⟨k, 2, none⟩ z) g us :=
  ((h.far (p := ⟨k, 0, none⟩) hne x).far (p := ⟨k, 1, none⟩) hne y).far (p := ⟨k, 2, none⟩) hne z
set_option maxHeartbeats 3200000 in
theorem tk_taken (p m v : Rat) (fp : fitR p = true) (fm : fitR m = true) (fv : fitR v = true) (va vb vc : Value) (w : World) (ha : IsR w va p) (hb : IsR w vb m) (hc : IsR w vc v) :
    Calls Tryz.prog 56 #[va, vb, vc] w (TkP w (tkE p m v) (tkX p m v) (tkY p m v)) := by
  obtain ⟨A1, a1, B1, b1, rfl, -, -⟩ := inR_open ha
  obtain ⟨A2, a2, B2, b2, rfl, -, -⟩ := inR_open hb
  obtain ⟨A3, a3, B3, b3, rfl, -, -⟩ := inR_open hc
  obtain ⟨p0, hp0⟩ : ∃ x, negR p = x := ⟨_, rfl⟩
  obtain ⟨p1, hp1⟩ : ∃ x, (topL p).length = x := ⟨_, rfl⟩
  obtain ⟨p2, hp2⟩ : ∃ x, (botL p).length = x := ⟨_, rfl⟩
  obtain ⟨m0, hm0⟩ : ∃ x, negR m = x := ⟨_, rfl⟩
  obtain ⟨m1, hm1⟩ : ∃ x, (topL m).length = x := ⟨_, rfl⟩
  obtain ⟨m2, hm2⟩ : ∃ x, (botL m).length = x := ⟨_, rfl⟩
  obtain ⟨v0, hv0⟩ : ∃ x, negR v = x := ⟨_, rfl⟩
  obtain ⟨v1, hv1⟩ : ∃ x, (topL v).length = x := ⟨_, rfl⟩
  obtain ⟨v2, hv2⟩ : ∃ x, (botL v).length = x := ⟨_, rfl⟩
  rw [hp0, hp1, hp2] at ha
  rw [hm0, hm1, hm2] at hb
  rw [hv0, hv1, hv2] at hc
  rw [hp0, hp1, hp2, hm0, hm1, hm2, hv0, hv1, hv2]
  have HA := Lib.hid ha
  have HB := Lib.hid hb
  have HC := Lib.hid hc
  have K1 := Lib.hid fun a b W h k => x_Mul p m fp fm a b W h k
  obtain ⟨c1, hc1⟩ : ∃ b, mulOk p m = b := ⟨_, rfl⟩
  obtain ⟨D, hD⟩ : ∃ D, divEr (p * m) v = D := ⟨_, rfl⟩
  have K2 := Lib.hid fun (h : c1 = true) a b W hh k => x_Div (p * m) v (fit_mul (hc1.trans h)) fv a b W hh k
  obtain ⟨c3, hc3⟩ : ∃ b, subOk p (tkX p m v) = b := ⟨_, rfl⟩
  have K3 := Lib.hid fun (h : D = 0) a b W hh k => x_Sub p (tkX p m v) fp (fit_div (hD.trans h)) a b W hh k
  rw [hc1] at K1
  rw [hD] at K2
  rw [hc3] at K3
  obtain ⟨E, hE⟩ : ∃ E, tkE p m v = E := ⟨_, rfl⟩
  have HE : Hid (E = if c1 then (if D = 0 then okE c3 else D) else 2) := Lib.hid (by rw [← hE, ← hc1, ← hD, ← hc3]; rfl)
  rw [hE]
  have HX : Hid (divOp (p * m) v = tkX p m v) := rfl
  rw [HX.out] at K2
  obtain ⟨X, hX⟩ : ∃ X, tkX p m v = X := ⟨_, rfl⟩
  have HY : Hid (subOp p X = tkY p m v) := Lib.hid (by rw [← hX]; rfl)
  rw [hX] at K2 K3 ⊢
  rw [HY.out] at K3
  obtain ⟨Y, hY⟩ : ∃ Y, tkY p m v = Y := ⟨_, rfl⟩
  rw [hY] at K3 ⊢
  clear ha hb hc hp0 hp1 hp2 hm0 hm1 hm2 hv0 hv1 hv2 hc1 hD hc3 hE HX hX HY hY fp fm fv
  go_enter Tryz.func56, Tryz.ntmps56
  go_upto_region 1 with fail
  obtain ⟨w0, hw0⟩ : ∃ W, ((((w.alloc (.cells #[.bool p0, .slice A1 p1 a1, .slice B1 p2 b1] 33)).alloc (.cells #[.bool m0, .slice A2 m1 a2, .slice B2 m2 b2] 33)).alloc (.cells #[.bool v0, .slice A3 v1 a3, .slice B3 v2 b3] 33)).alloc (.cells #[.bool false, .slice none 0 0, .slice none 0 0] 33)).alloc (.cells #[.bool false, .slice none 0 0, .slice none 0 0] 33) = W := ⟨_, rfl⟩
  have P0 : Hid (Rw.Cel w0 w.heap.size [.bool p0, .slice A1 p1 a1, .slice B1 p2 b1]) := hw0 ▸ ((((Rw.Cel.new w [_, _, _] _).alloc _).alloc _).alloc _).alloc _
  have M0 : Hid (Rw.Cel w0 (w.heap.size + 1) [.bool m0, .slice A2 m1 a2, .slice B2 m2 b2]) := hw0 ▸ (((Rw.Cel.new_at _ [_, _, _] _ (by simp)).alloc _).alloc _).alloc _
  have V0 : Hid (Rw.Cel w0 (w.heap.size + 2) [.bool v0, .slice A3 v1 a3, .slice B3 v2 b3]) := hw0 ▸ ((Rw.Cel.new_at _ [_, _, _] _ (by simp)).alloc _).alloc _
  have R0 : Hid (Rw.Cel w0 (w.heap.size + 3) [.bool false, .slice none 0 0, .slice none 0 0]) := hw0 ▸ (Rw.Cel.new_at _ [_, _, _] _ (by simp)).alloc _
  have S0 : Hid (Rw.Cel w0 (w.heap.size + 4) [.bool false, .slice none 0 0, .slice none 0 0]) := hw0 ▸ Rw.Cel.new_at _ [_, _, _] _ (by simp)
  have B0 : Hid (Below w.heap.size w w0) := hw0 ▸ bstep (bstep (bstep (bstep (below_alloc _ _) (below_alloc _ _)) (below_alloc _ _)) (below_alloc _ _)) (below_alloc _ _)
  rw [hw0]
  clear hw0
  replace HA := Lib.hid (HA.out.on B0.out)
  replace HB := Lib.hid (HB.out.on B0.out)
  replace HC := Lib.hid (HC.out.on B0.out)
  obtain ⟨x0, x1, x2⟩ := P0.out.three
  obtain ⟨y0, y1, y2⟩ := M0.out.three
  go_wp2_with fail
  refine (K1.out _ _ w0 HA.out HB.out).mono ?_
  rintro e w1 h
  obtain ⟨b4, A4, n4, c4, B4, m4, d4, rfl, ho, hb⟩ := h.open_
  have BB1 := Lib.hid (bstep B0.out hb)
  replace HA := Lib.hid (HA.out.on hb)
  replace HC := Lib.hid (HC.out.on hb)
  have P1 := Lib.hid (P0.out.on hb)
  have V1 := Lib.hid (V0.out.on hb)
  have R1 := Lib.hid (R0.out.on hb)
  have S1 := Lib.hid (S0.out.on hb)
  have O1 := Lib.hid ho
  clear h ho hb x0 x1 x2 y0 y1 y2 HB M0
  go_upto_region 2 with fail
  obtain ⟨w2, hw2⟩ : ∃ W, w1.alloc (.cells #[.bool b4, .slice A4 n4 c4, .slice B4 m4 d4] 33) = W := ⟨_, rfl⟩
  obtain ⟨g, hg⟩ : ∃ g, w1.heap.size = g := ⟨_, rfl⟩
  have hb2 : Below w1.heap.size w1 w2 := hw2 ▸ below_alloc _ _
  have X2 : Hid (Rw.Cel w2 g [.bool b4, .slice A4 n4 c4, .slice B4 m4 d4]) := hw2 ▸ hg ▸ Rw.Cel.new w1 [_, _, _] _
  have BB2 := Lib.hid (bstep BB1.out hb2)
  have P2 := Lib.hid (P1.out.on hb2)
  have V2 := Lib.hid (V1.out.on hb2)
  have R2 := Lib.hid (R1.out.on hb2)
  have S2 := Lib.hid (S1.out.on hb2)
  have O2 := Lib.hid (O1.out.on hb2)
  replace HA := Lib.hid (HA.out.on hb2)
  replace HC := Lib.hid (HC.out.on hb2)
  have G2 : Hid (w.heap.size + 5 ≤ g) := Lib.hid (by have := S1.out.lt; omega)
  rw [hw2, hg]
  clear hw2 hb2 hg
  cases c1 with
  | false =>
    obtain rfl : E = 2 := HE.out
    have zz : okE false = 2 := rfl
    rw [zz]
    obtain ⟨u0, u1, u2⟩ := R2.out.three
    obtain ⟨t0, t1, t2⟩ := R2.out.warm3
    obtain ⟨u3, u4, u5⟩ := S2.out.three
    obtain ⟨t3, t4, t5⟩ := S2.out.warm3
    go_wp2_with fail
    exact bodyPost_ret (res_two Tryz.results56 rfl rfl (far3 (R2.out.put3 _ _ _) (by omega) _ _ _) ((far3 S2.out (by omega) _ _ _).put3 _ _ _)) rfl ⟨_, _, rfl, OutR.no (by decide), OutR.no (by decide), Rw.below_put3 (Rw.below_put3 BB2.out (by omega) _ _ _) (by omega) _ _ _⟩
  | true =>
  have zz : okE true = 0 := rfl
  rw [zz]
  replace O2 := Lib.hid (O2.out.zero rfl)
  obtain ⟨x0, x1, x2⟩ := X2.out.three
  obtain ⟨y0, y1, y2⟩ := V2.out.three
  go_wp2_with fail
  refine (K2.out trivial _ _ w2 O2.out HC.out).mono ?_
  rintro e w3 h
  obtain ⟨b5, A5, n5, c5, B5, m5, d5, rfl, ho, hb⟩ := h.open_
  have BB3 := Lib.hid (bstep BB2.out hb)
  replace HA := Lib.hid (HA.out.on hb)
  have P3 := Lib.hid (P2.out.on hb)
  have R3 := Lib.hid (R2.out.on hb)
  have S3 := Lib.hid (S2.out.on hb)
  have X3 := Lib.hid (X2.out.on hb)
  have O3 := Lib.hid ho
  clear h ho hb x0 x1 x2 y0 y1 y2 HC V2 O2
  obtain ⟨x0, x1, x2⟩ := X3.out.three
  obtain ⟨y0, y1, y2⟩ := X3.out.warm3
  go_upto_region 5 with fail
  obtain ⟨w4, hw4⟩ : ∃ W, ((w3.setCell ⟨g, 0, none⟩ (.bool b5)).setCell ⟨g, 1, none⟩ (.slice A5 n5 c5)).setCell ⟨g, 2, none⟩ (.slice B5 m5 d5) = W := ⟨_, rfl⟩
  have X4 : Hid (Rw.Cel w4 g [.bool b5, .slice A5 n5 c5, .slice B5 m5 d5]) := hw4 ▸ X3.out.put3 _ _ _
  have BB4 : Hid (Below w.heap.size w w4) := hw4 ▸ Rw.below_put3 BB3.out (by have := G2.out; omega) _ _ _
  have P4 : Hid (Rw.Cel w4 w.heap.size [.bool p0, .slice A1 p1 a1, .slice B1 p2 b1]) := hw4 ▸ far3 P3.out (by have := G2.out; omega) _ _ _
  have R4 : Hid (Rw.Cel w4 (w.heap.size + 3) [.bool false, .slice none 0 0, .slice none 0 0]) := hw4 ▸ far3 R3.out (by have := G2.out; omega) _ _ _
  have S4 : Hid (Rw.Cel w4 (w.heap.size + 4) [.bool false, .slice none 0 0, .slice none 0 0]) := hw4 ▸ far3 S3.out (by have := G2.out; omega) _ _ _
  have O4 : Hid (OutR w4 (.agg #[.bool b5, .slice A5 n5 c5, .slice B5 m5 d5]) D X) := hw4 ▸ OutR.put3 O3.out (cel_root X3.out) _ _ _
  have A4 : Hid (IsR w4 (.agg #[.bool p0, .slice A1 p1 a1, .slice B1 p2 b1]) p) := hw4 ▸ InR.put3 HA.out (cel_root X3.out) _ _ _
  rw [hw4]
  clear hw4 x0 x1 x2 y0 y1 y2 HA P3 R3 S3 X3 O3
  by_cases hz : D = 0
  rotate_left
  · obtain ⟨z1, z2⟩ := ne_zero hz
    obtain rfl : E = D := by simpa [hz] using HE.out
    obtain ⟨u0, u1, u2⟩ := R4.out.three
    obtain ⟨t0, t1, t2⟩ := R4.out.warm3
    obtain ⟨u3, u4, u5⟩ := S4.out.three
    obtain ⟨t3, t4, t5⟩ := S4.out.warm3
    go_wp2_with fail
    exact bodyPost_ret (res_two Tryz.results56 rfl rfl (far3 (R4.out.put3 _ _ _) (by omega) _ _ _) ((far3 S4.out (by omega) _ _ _).put3 _ _ _)) rfl ⟨_, _, rfl, OutR.no hz, OutR.no hz, Rw.below_put3 (Rw.below_put3 BB4.out (by omega) _ _ _) (by omega) _ _ _⟩
  subst hz
  replace O4 := Lib.hid (O4.out.zero rfl)
  obtain ⟨x0, x1, x2⟩ := X4.out.three
  obtain ⟨y0, y1, y2⟩ := P4.out.three
  go_wp2_with fail
  refine (K3.out trivial _ _ w4 A4.out O4.out).mono ?_
  rintro e w5 h
  obtain ⟨b6, A6, n6, c6, B6, m6, d6, rfl, ho, hb⟩ := h.open_
  have BB5 := Lib.hid (bstep BB4.out hb)
  have R5 := Lib.hid (R4.out.on hb)
  have S5 := Lib.hid (S4.out.on hb)
  have X5 := Lib.hid (X4.out.on hb)
  have O5 := Lib.hid (O4.out.on hb)
  have Q5 := Lib.hid ho
  clear h ho hb x0 x1 x2 y0 y1 y2 A4 P4
  go_upto_region 8 with fail
  obtain ⟨w6, hw6⟩ : ∃ W, w5.alloc (.cells #[.bool b6, .slice A6 n6 c6, .slice B6 m6 d6] 33) = W := ⟨_, rfl⟩
  have hb6 : Below w5.heap.size w5 w6 := hw6 ▸ below_alloc _ _
  have Y6 : Hid (Rw.Cel w6 w5.heap.size [.bool b6, .slice A6 n6 c6, .slice B6 m6 d6]) := hw6 ▸ Rw.Cel.new w5 [_, _, _] _
  have BB6 := Lib.hid (bstep BB5.out hb6)
  have R6 := Lib.hid (R5.out.on hb6)
  have S6 := Lib.hid (S5.out.on hb6)
  have X6 := Lib.hid (X5.out.on hb6)
  have O6 := Lib.hid (O5.out.on hb6)
  have Q6 := Lib.hid (Q5.out.on hb6)
  rw [hw6]
  clear hw6 hb6
  obtain ⟨u0, u1, u2⟩ := R6.out.three
  obtain ⟨t0, t1, t2⟩ := R6.out.warm3
  obtain ⟨u3, u4, u5⟩ := S6.out.three
  obtain ⟨t3, t4, t5⟩ := S6.out.warm3
  cases c3 with
  | false =>
    obtain rfl : E = 2 := HE.out
    have zz : okE false = 2 := rfl
    rw [zz]
    go_wp2_with fail
    exact bodyPost_ret (res_two Tryz.results56 rfl rfl (far3 (R6.out.put3 _ _ _) (by omega) _ _ _) ((far3 S6.out (by omega) _ _ _).put3 _ _ _)) rfl ⟨_, _, rfl, OutR.no (by decide), OutR.no (by decide), Rw.below_put3 (Rw.below_put3 BB6.out (by omega) _ _ _) (by omega) _ _ _⟩
  | true =>
  obtain rfl : E = 0 := HE.out
  rw [zz]
  replace Q6 := Lib.hid (Q6.out.zero rfl)
  obtain ⟨x0, x1, x2⟩ := X6.out.three
  obtain ⟨y0, y1, y2⟩ := Y6.out.three
  go_upto_region 10 with fail
  obtain ⟨k0, k1, k2⟩ := (far3 (k := w.heap.size + 1 + 1 + 1) Y6.out (by have := S5.out.lt; omega) (.bool b5) (.slice A5 n5 c5) (.slice B5 m5 d5)).three
  have l1 : w.heap.size + 1 + 1 + 1 < w5.heap.size := by have := S5.out.lt; omega
  have l2 : w.heap.size + 1 + 1 + 1 + 1 < w5.heap.size := by have := S5.out.lt; omega
  go_region
  all_goals
    go_wp2_with fail
    have RF := R6.out.put3 (.bool b5) (.slice A5 n5 c5) (.slice B5 m5 d5)
    have SF := far3 S6.out (k := w.heap.size + 3) (by omega) (.bool b5) (.slice A5 n5 c5) (.slice B5 m5 d5)
    have RG := far3 RF (k := w.heap.size + 4) (by omega) (.bool b6) (.slice A6 n6 c6) (.slice B6 m6 d6)
    have SG := SF.put3 (.bool b6) (.slice A6 n6 c6) (.slice B6 m6 d6)
    have OF := InR.put3 (InR.put3 O6.out (cel_root R6.out) (.bool b5) (.slice A5 n5 c5) (.slice B5 m5 d5)) (cel_root SF) (.bool b6) (.slice A6 n6 c6) (.slice B6 m6 d6)
    have QF := InR.put3 (InR.put3 Q6.out (cel_root R6.out) (.bool b5) (.slice A5 n5 c5) (.slice B5 m5 d5)) (cel_root SF) (.bool b6) (.slice A6 n6 c6) (.slice B6 m6 d6)
    have BF := Rw.below_put3 (Rw.below_put3 BB6.out (show w.heap.size ≤ w.heap.size + 3 by omega) (.bool b5) (.slice A5 n5 c5) (.slice B5 m5 d5)) (show w.heap.size ≤ w.heap.size + 4 by omega) (.bool b6) (.slice A6 n6 c6) (.slice B6 m6 d6)
    exact bodyPost_ret (res_two Tryz.results56 rfl rfl RG.drew SG.drew) rfl ⟨_, _, rfl, OutR.ok (InR.drew OF), OutR.ok (InR.drew QF), below_drew BF⟩
end Go.Proofs.YtgmlccjjhmhgbaaGreat.Tank
/- append to a row whose cells hold no integers; told too: the row's block. -/
namespace Go.Proofs.YtgmlccjjhmhgbaaGreat.Rw
open Go.ChangeShapes Go.WideShapes Go.RowKit Go.Lib
set_option linter.unusedVariables false
set_option maxRecDepth 100000

section
variable {α : Type} {cs : α → List Value} {s : Nat} {T t : TypeId} {B : Nat} {w : World} {v : Value} {L M : List α} {A : Option Addr}
/-- 'append(s, x...)' in a plain region; told too: the row's block. -/
theorem append_rowsG (K : Kd cs s T t) (hcs : ∀ z, ∀ u ∈ cs z, noI u) (hzr : ∀ i zv, Tryz.prog.info? t = some i → i.zero = some zv → ∀ u ∈ zv.cells.toList, noI u)
    {ops : Array Oper} {rest : List Oper} {o : Oper} {a : Act} {Q : Exit → Act → World → Prop} (hgd : o.guard = none) (x y : Operand)
    (ho : o.op = .call { callee := .builtin .append, args := #[x, y], argTypes := #[T, T] })
    (v : Value) (L : List α) (hs : a.eval x = v) (hown : Row cs s t B w v L) (hno : NoI w v) (A : Option Addr) (m c : Nat) (M : List α) (hm : m = M.length) (hpos : 0 < m) (hx : a.eval y = .slice A m c) (hz : Rd cs s w A M) (hlen : L.length + m ≤ 1000000) (hB : B ≤ w.heap.size)
    (h : ∀ A' n' c' w', n' = L.length + m → Row cs s t B w' (.slice A' n' c') (L ++ M) → NoI w' (.slice A' n' c') → w.grownBy w' v.ownBlock → ((Value.slice A' n' c').ownBlock = v.ownBlock ∨ (Value.slice A' n' c').ownBlock = some w.heap.size) → wpList Tryz.prog ops Q rest (a.put o.dst (.slice A' n' c')) w') :
    wpList Tryz.prog ops Q (o :: rest) a w := by
  obtain ⟨v', w', hr, h1, h2, h3, h4⟩ := run_append_noI K hcs hzr hown hno m c hm hpos hz hlen hB o.type
  obtain ⟨A', c', rfl, -⟩ := h1.one K.len
  refine wpList_plain hgd fun K' hK => ?_
  unfold Oper.wp execOp
  simp only [ho, resolve, invoke, builtin, Sem.run_bind, Sem.run_pure, Result.andThen_ok, List.map_toArray, List.map_cons, List.map_nil, hs, hx, hr]
  exact hK _ _ (h A' _ c' w' (by rw [List.length_append, hm]) h1 h4 h2 h3)
end
end Go.Proofs.YtgmlccjjhmhgbaaGreat.Rw
