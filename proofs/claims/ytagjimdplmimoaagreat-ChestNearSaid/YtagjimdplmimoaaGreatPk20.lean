/- Several texts in one: ChestF, ChestO, ChestV, TankW, TankX, TankD, TankE, TankF, TankPA, TankO. -/
import Derived.Test.YtagjimdplmimoaaGreatPk2
import Derived.Test.YtagjimdplmimoaaGreatPk7
import Derived.Test.YtagjimdplmimoaaGreatPk19
import Derived.Test.YtagjimdplmimoaaGreatPk18
/- Draws: errors, values, what the parts keep (P18.5, P18.8, P18.10). -/
namespace Go.Proofs.YtagjimdplmimoaaGreat.Chest
open Go.Lib
open Go.Proofs.YtagjimdplmimoaaGreat.Share (sumK sumK_zero sumK_succ partsL partsL_at partsL_len part_near part_sum quo quo_rst rst wf wf_at errS mx)
open Go.Proofs.YtagjimdplmimoaaGreat.Tank (MM)
open Go.Proofs.YtagjimdplmimoaaGreat.Rw (glt get_lt)
set_option linter.unusedVariables false

theorem dr_ok {cap t : Int} {L : List Int} (h : COk cap L) (h0 : 0 ≤ t) (h1 : t ≤ sumZ L) : Share.Ok t L := by
  have hM : MM = 1099511627776 := rfl
  have hm : mx = 1125899906842624 := rfl
  have hp := h.pos
  exact ⟨h0, by omega, by have := h.len; omega, by have := h.len; omega, fun z hz => by have := h.all z hz; omega, by unfold sumZ at hp; omega, fun hz => by unfold sumZ at h1; omega⟩
theorem sumK_parts (t : Int) (r : List Int) : ∀ k, k ≤ r.length → sumK (partsL t r) k = (Share.sm (Share.part t.toNat (wf r) r.length) k : Int)
  | 0, _ => rfl
  | k + 1, h => by rw [sumK_succ (partsL_at t (by omega)), sumK_parts t r k (by omega), Share.sm]; simp
theorem dr_sum {t : Int} {L : List Int} (h : Share.Ok t L) : sumZ (partsL t L) = t := by
  unfold sumZ
  rw [partsL_len, sumK_parts t L _ (Nat.le_refl _)]
  exact h.parts
theorem part_small {T n : Nat} {w : Nat → Nat} (hT : T ≤ Share.tw w n) (i : Nat) : Share.part T w n i ≤ w i := by
  rcases Nat.eq_zero_or_pos (Share.tw w n) with h0 | h0
  · unfold Share.part; rw [if_pos h0]; exact Nat.zero_le _
  · have h1 := quo_rst (T := T) (w := w) (n := n) i
    have h2 := (part_near (T := T) (w := w) (n := n) h0 i).2
    have h3 : T * w i ≤ Share.tw w n * w i := Nat.mul_le_mul_right _ hT
    by_cases hr : rst T w n i = 0
    · rw [if_pos hr] at h2
      have h4 : Share.tw w n * quo T w n i ≤ Share.tw w n * w i := by omega
      have := Nat.le_of_mul_le_mul_left h4 h0
      omega
    · rw [if_neg hr] at h2
      have h4 : Share.tw w n * quo T w n i < Share.tw w n * w i := by omega
      have := Nat.lt_of_mul_lt_mul_left h4
      omega
theorem dr_part {t : Int} {L : List Int} (h : Share.Ok t L) (ht : t ≤ sumZ L) {k : Nat} {x y : Int} (hx : (partsL t L)[k]? = some x) (hy : L[k]? = some y) : 0 ≤ x ∧ x ≤ y := by
  have hk : k < L.length := glt hy
  rw [partsL_at t hk] at hx
  have hx' := Option.some.inj hx
  have h1 := h.twI
  have h0 := h.t0
  have h2 := part_small (T := t.toNat) (w := wf L) (n := L.length) (by unfold sumZ at ht; omega) k
  have h3 := wf_at hy (h.all y (List.mem_of_getElem? hy)).1
  omega
/-- Draw. -/
def drE (cap : Int) (L : List Int) (t : Int) : Int :=
  if ckC cap L = 0 then if 0 ≤ t ∧ t ≤ MM then if sumZ L < t then 19 else 0 else 1 else ckC cap L
def drC (cap : Int) (L : List Int) (t : Int) : Int := if drE cap L t = 0 then cap else 0
def drL (cap : Int) (L : List Int) (t : Int) : List Int := if drE cap L t = 0 then lessL L (partsL t L) else []
def drM (cap : Int) (L : List Int) (t : Int) : List Int := if drE cap L t = 0 then partsL t L else []
theorem dr_no {cap t : Int} {L : List Int} (h : ¬ drE cap L t = 0) : drC cap L t = 0 ∧ drL cap L t = [] ∧ drM cap L t = [] := ⟨if_neg h, if_neg h, if_neg h⟩
theorem dr_yes {cap t : Int} {L : List Int} (h : drE cap L t = 0) : drC cap L t = cap ∧ drL cap L t = lessL L (partsL t L) ∧ drM cap L t = partsL t L := ⟨if_pos h, if_pos h, if_pos h⟩
theorem drE_ck {cap t : Int} {L : List Int} (h : ¬ ckC cap L = 0) : drE cap L t = ckC cap L := if_neg h
theorem drE_out {cap t : Int} {L : List Int} (h : ckC cap L = 0) (h2 : ¬ (0 ≤ t ∧ t ≤ MM)) : drE cap L t = 1 := by unfold drE; rw [if_pos h, if_neg h2]
theorem drE_more {cap t : Int} {L : List Int} (h : ckC cap L = 0) (h2 : 0 ≤ t ∧ t ≤ MM) (h3 : sumZ L < t) : drE cap L t = 19 := by unfold drE; rw [if_pos h, if_pos h2, if_pos h3]
theorem drE_ok {cap t : Int} {L : List Int} (h : ckC cap L = 0) (h2 : 0 ≤ t ∧ t ≤ MM) (h3 : ¬ sumZ L < t) : drE cap L t = 0 := by unfold drE; rw [if_pos h, if_pos h2, if_neg h3]
theorem drE_of {cap t : Int} {L : List Int} (h : drE cap L t = 0) : COk cap L ∧ 0 ≤ t ∧ t ≤ sumZ L := by
  by_cases h1 : ckC cap L = 0
  rotate_left
  · rw [drE_ck h1] at h; exact absurd h h1
  by_cases h2 : 0 ≤ t ∧ t ≤ MM
  rotate_left
  · rw [drE_out h1 h2] at h; cases h
  by_cases h3 : sumZ L < t
  · rw [drE_more h1 h2 h3] at h; cases h
  exact ⟨ckC_ok h1, h2.1, by omega⟩
end Go.Proofs.YtagjimdplmimoaaGreat.Chest
/- The program: Draw. -/
namespace Go.Proofs.YtagjimdplmimoaaGreat.Chest
open Go.ChangeShapes Go.WideShapes Go.RowKit Go.Lib
open Go.Proofs.YtagjimdplmimoaaGreat.Mem (Cl eI Own make_ints)
open Go.Proofs.YtagjimdplmimoaaGreat.Share (errS partsL partsL_len splL ResL split_n own_cl one_made lst_zero)
open Go.Proofs.YtagjimdplmimoaaGreat.Tank (MM cl_at q_Parts lisE_of)
open Go.Proofs.YtagjimdplmimoaaGreat.Rw (glt get_lt ret_bool ret_int bstep below_drewN below_drew drew_below below_alloc)
set_option linter.unusedVariables false
set_option maxRecDepth 100000

/-- A chest and a list of the call's own, and an error. -/
def DRs (w : World) (err cap : Int) (L m : List Int) (e : Ending) (w' : World) : Prop :=
  ∃ A n c A' n' c', e = .returned (.tuple #[.agg #[.int .i64 cap, .slice A n c], .slice A' n' c', .int .i64 err]) ∧ L.length = n ∧ m.length = n' ∧
    Own eI 3 w.heap.size w' (.slice A n c) L ∧ Own eI 3 w.heap.size w' (.slice A' n' c') m ∧ Below w.heap.size w w'
theorem DRs.none_ {w w' : World} {err : Int} (hb : Below w.heap.size w w') : DRs w err 0 [] [] (.returned (.tuple #[.agg #[.int .i64 0, .slice none 0 0], .slice none 0 0, .int .i64 err])) w' :=
  ⟨_, _, _, _, _, _, rfl, rfl, rfl, Own.nil _ _ _ _, Own.nil _ _ _ _, hb⟩
theorem parts_lim {cap t : Int} {L : List Int} (ok : COk cap L) (t0 : 0 ≤ t) (tle : t ≤ sumZ L) : ∀ z ∈ partsL t L, 0 ≤ z ∧ z ≤ MM := fun z hz => by
  have sok := dr_ok ok t0 tle
  obtain ⟨k, hk⟩ := List.mem_iff_getElem?.mp hz
  obtain ⟨y, hy⟩ := get_lt (L := L) (k := k) (by have := glt hk; rw [partsL_len] at this; exact this)
  have h1 := dr_part sok tle hk hy
  have h2 := ok.all y (List.mem_of_getElem? hy)
  omega
set_option maxHeartbeats 3200000 in
theorem ch_Draw (cap t : Int) (L : List Int) (A : Option Addr) (n c : Nat) (hn : L.length = n) (w : World) (ha : Cl eI w A L) (h1 : n ≤ 9223372036854775807) :
    Calls Tryz.prog 9 #[.agg #[.int .i64 cap, .slice A n c], .int .i64 t] w (DRs w (drE cap L t) (drC cap L t) (drL cap L t) (drM cap L t)) := by
  have HA := Lib.hid ha
  have HN := Lib.hid hn
  have KC := Lib.hid fun (W : World) (h : Cl eI W A L) => ch_Level cap L A n c hn.symm W h h1
  have KS := Lib.hid fun (W : World) (h : Cl eI W A L) => split_n t L n hn A c W h h1
  obtain ⟨E, hE⟩ : ∃ E, ckC cap L = E := ⟨_, rfl⟩
  obtain ⟨Y, hY⟩ : ∃ Y, levV cap L = Y := ⟨_, rfl⟩
  rw [hE, hY] at KC
  have HE := Lib.hid hE
  have HY := Lib.hid hY
  clear ha hn h1 hE hY
  go_enter Tryz.func9, Tryz.ntmps9
  go_upto_region 1 with fail
  obtain ⟨w0, hw0⟩ : ∃ W, w.alloc (.cells #[.int .i64 cap, .slice A n c] 26) = W := ⟨_, rfl⟩
  have C0 : Hid (Rw.Cel w0 w.heap.size [.int .i64 cap, .slice A n c]) := hw0 ▸ Rw.Cel.new w [_, _] _
  have B0 : Hid (Below w.heap.size w w0) := hw0 ▸ below_alloc _ _
  have S0 : Hid (w0.heap.size = w.heap.size + 1) := Lib.hid (by rw [← hw0]; simp)
  rw [hw0]
  clear hw0
  obtain ⟨w1, hw1⟩ : ∃ W, w0.alloc (.cells #[.int .i64 0, .slice none 0 0] 26) = W := ⟨_, rfl⟩
  have D1 : Hid (Rw.Cel w1 (w.heap.size + 1) [.int .i64 0, .slice none 0 0]) := by
    refine Lib.hid ?_
    rw [← hw1, ← S0.out]; exact Rw.Cel.new w0 [_, _] _
  have C1 : Hid (Rw.Cel w1 w.heap.size [.int .i64 cap, .slice A n c]) := hw1 ▸ C0.out.alloc _
  have B1 : Hid (Below w.heap.size w w1) := Lib.hid (bstep B0.out (hw1 ▸ below_alloc _ _))
  have S1 : Hid (w1.heap.size = w.heap.size + 2) := Lib.hid (by rw [← hw1]; simp [S0.out])
  rw [hw1]
  clear hw1 C0 B0 S0
  obtain ⟨x0, x1⟩ := C1.out.two
  go_wp2_with fail
  refine (KC.out _ (HA.out.on B1.out)).mono ?_
  rintro e w2 ⟨rfl, hb⟩
  have B2 := Lib.hid (bstep B1.out hb)
  have C2 := Lib.hid (C1.out.on hb)
  have D2 := Lib.hid (D1.out.on hb)
  have S2 : Hid (w.heap.size + 2 ≤ w2.heap.size) := Lib.hid (by have := hb.size; have := S1.out; omega)
  clear hb x0 x1 C1 D1 B1 S1
  obtain ⟨x0, x1⟩ := C2.out.two
  by_cases hz : E = 0
  rotate_left
  · obtain ⟨z1, z2⟩ := ne_zero hz
    have e1 : drE cap L t = E := (drE_ck (by rw [HE.out]; exact hz)).trans HE.out
    have HEE := Lib.hid (And.intro e1 (dr_no (by rw [e1]; exact hz)))
    clear hz e1
    obtain ⟨u0, u1⟩ := D2.out.two
    obtain ⟨v0, v1⟩ := D2.out.warm2
    go_wp2_with fail
    exact bodyPost_ret (res_chest3 Tryz.results9 rfl (D2.out.put2 _ _)) rfl (by rw [HEE.out.1, HEE.out.2.1, HEE.out.2.2.1, HEE.out.2.2.2]; exact DRs.none_ (Rw.below_put2 B2.out (Nat.le_succ _) _ _))
  subst hz
  have hMM : MM = 1099511627776 := rfl
  rcases Int.lt_or_le t 0 with h0 | h0
  · have d0 : decide (t < 0) = true := decide_eq_true h0
    have e1 : drE cap L t = 1 := drE_out HE.out (by omega)
    have HEE := Lib.hid (And.intro e1 (dr_no (by rw [e1]; decide)))
    clear h0 e1 hMM
    obtain ⟨u0, u1⟩ := D2.out.two
    obtain ⟨v0, v1⟩ := D2.out.warm2
    go_wp2_with fail
    exact bodyPost_ret (res_chest3 Tryz.results9 rfl (D2.out.put2 _ _)) rfl (by rw [HEE.out.1, HEE.out.2.1, HEE.out.2.2.1, HEE.out.2.2.2]; exact DRs.none_ (Rw.below_put2 B2.out (Nat.le_succ _) _ _))
  have d0 : decide (t < 0) = false := decide_eq_false (by omega)
  rcases Int.lt_or_le 1099511627776 t with h3 | h3
  · have d1 : decide (1099511627776 < t) = true := decide_eq_true h3
    have e1 : drE cap L t = 1 := drE_out HE.out (by omega)
    have HEE := Lib.hid (And.intro e1 (dr_no (by rw [e1]; decide)))
    clear h0 h3 e1 hMM
    obtain ⟨u0, u1⟩ := D2.out.two
    obtain ⟨v0, v1⟩ := D2.out.warm2
    go_wp2_with fail
    exact bodyPost_ret (res_chest3 Tryz.results9 rfl (D2.out.put2 _ _)) rfl (by rw [HEE.out.1, HEE.out.2.1, HEE.out.2.2.1, HEE.out.2.2.2]; exact DRs.none_ (Rw.below_put2 B2.out (Nat.le_succ _) _ _))
  have d1 : decide (1099511627776 < t) = false := decide_eq_false (by omega)
  have ok := ckC_ok HE.out
  have hy := HY.out
  rw [levV_ok HE.out] at hy
  have hin : 0 ≤ t ∧ t ≤ MM := ⟨h0, by omega⟩
  rcases Int.lt_or_le Y t with hg | hg
  · have d2 : decide (Y < t) = true := decide_eq_true hg
    have e1 : drE cap L t = 19 := drE_more HE.out hin (by rw [hy]; exact hg)
    have HEE := Lib.hid (And.intro e1 (dr_no (by rw [e1]; decide)))
    clear hg e1 ok hy hin h0 h3 hMM
    obtain ⟨u0, u1⟩ := D2.out.two
    obtain ⟨v0, v1⟩ := D2.out.warm2
    go_wp2_with fail
    exact bodyPost_ret (res_chest3 Tryz.results9 rfl (D2.out.put2 _ _)) rfl (by rw [HEE.out.1, HEE.out.2.1, HEE.out.2.2.1, HEE.out.2.2.2]; exact DRs.none_ (Rw.below_put2 B2.out (Nat.le_succ _) _ _))
  have d2 : decide (Y < t) = false := decide_eq_false (by omega)
  have hle : t ≤ sumZ L := by rw [hy]; exact hg
  have e1 : drE cap L t = 0 := drE_ok HE.out hin (by omega)
  have HEE := Lib.hid (And.intro e1 (dr_yes e1))
  have sok := dr_ok ok h0 hle
  have hspl : splL t L = partsL t L := if_pos sok.err
  rw [hspl, sok.err] at KS
  have HPL := Lib.hid (partsL_len t L)
  have HPM := Lib.hid (parts_lim ok h0 hle)
  have HOK := Lib.hid ok
  clear hg e1 hle sok hspl ok hy hin h0 h3 hMM
  go_wp2_with fail
  refine (KS.out _ (HA.out.on B2.out)).mono ?_
  intro e w4 hr
  obtain ⟨A4, n4, c4, rfl, hl4, _, ho4, hc4, hb⟩ := Share.ResL.open_ hr
  have hn4 : n4 = n := by have := HPL.out; have := HN.out; omega
  subst hn4
  have B4 := Lib.hid (bstep B2.out hb)
  have C4 := Lib.hid (C2.out.on hb)
  have D4 := Lib.hid (D2.out.on hb)
  have S4 : Hid (w.heap.size + 2 ≤ w4.heap.size) := Lib.hid (by have := hb.size; have := S2.out; omega)
  have HO4 : Hid (Own eI 3 (w.heap.size + 2) w4 (.slice A4 n4 c4) (partsL t L)) := Lib.hid (ho4.less S2.out)
  have KQ := Lib.hid (ch_changed cap (-1) L (partsL t L) A A4 n4 c n4 c4 HN.out hl4 rfl (by have := HOK.out.len; have := HN.out; omega) (Or.inr rfl) HOK.out.all HPM.out w4 (HA.out.on B4.out) hc4)
  rw [chg_neg] at KQ
  clear hr ho4 hc4 hl4 hb x0 x1 C2 D2 B2 S2
  obtain ⟨x0, x1⟩ := C4.out.two
  go_wp2_with fail
  refine KQ.out.mono ?_
  rintro e w5 ⟨A5, n5, c5, rfl, hl5, ho5, hb⟩
  have B5 := Lib.hid (bstep B4.out hb)
  have D5 := Lib.hid (D4.out.on hb)
  have HO := Lib.hid (ho5.less S4.out)
  have HQ := Lib.hid (HO4.out.on hb)
  have HL5 := Lib.hid hl5
  clear hb hl5 ho5 x0 x1
  obtain ⟨u0, u1⟩ := D5.out.two
  obtain ⟨v0, v1⟩ := D5.out.warm2
  go_wp2_with fail
  exact bodyPost_ret (res_chest3 Tryz.results9 rfl (D5.out.put2 _ _)) rfl (by
    rw [HEE.out.1, HEE.out.2.1, HEE.out.2.2.1, HEE.out.2.2.2]
    exact ⟨_, _, _, _, _, _, rfl, HL5.out, own_len HQ.out, own_far2 (HO.out.less (by omega)) (fun e => by have h1 := (HO.out.lt _ e).1; omega) _ _,
      own_far2 (HQ.out.less (by omega)) (fun e => by have h1 := (HQ.out.lt _ e).1; omega) _ _, Rw.below_put2 B5.out (Nat.le_succ _) _ _⟩)
end Go.Proofs.YtagjimdplmimoaaGreat.Chest
/- What fills and draws keep (pure; gen18/v.py). -/
namespace Go.Proofs.YtagjimdplmimoaaGreat.Chest
open Go.Proofs.YtagjimdplmimoaaGreat.Share (partsL partsL_len partsL_at sumK sumK_zero sumK_succ wf wf_at part_near)
open Go.Proofs.YtagjimdplmimoaaGreat.Tank (MM lisE_mk)
open Go.Proofs.YtagjimdplmimoaaGreat.Rw (glt get_lt)
set_option linter.unusedVariables false

theorem sumK_less {L m : List Int} (h : m.length = L.length) : ∀ k, k ≤ L.length → sumK (lessL L m) k = sumK L k - sumK m k
  | 0, _ => by rw [sumK_zero, sumK_zero, sumK_zero]; rfl
  | k + 1, hk => by
    obtain ⟨x, hx⟩ := get_lt (L := L) (k := k) (by omega)
    obtain ⟨y, hy⟩ := get_lt (L := m) (k := k) (by omega)
    rw [sumK_succ hx, sumK_succ hy, sumK_succ (less_at hx hy), sumK_less h k (by omega)]; omega
theorem sumK_plus {L m : List Int} (h : m.length = L.length) : ∀ k, k ≤ L.length → sumK (plusL L m) k = sumK L k + sumK m k
  | 0, _ => by rw [sumK_zero, sumK_zero, sumK_zero]; rfl
  | k + 1, hk => by
    obtain ⟨x, hx⟩ := get_lt (L := L) (k := k) (by omega)
    obtain ⟨y, hy⟩ := get_lt (L := m) (k := k) (by omega)
    rw [sumK_succ hx, sumK_succ hy, sumK_succ (plus_at hx hy), sumK_plus h k (by omega)]; omega
theorem sumZ_less {L m : List Int} (h : m.length = L.length) : sumZ (lessL L m) = sumZ L - sumZ m := by
  unfold sumZ; rw [less_len h, sumK_less h _ (Nat.le_refl _), h]
theorem sumZ_plus {L m : List Int} (h : m.length = L.length) : sumZ (plusL L m) = sumZ L + sumZ m := by
  unfold sumZ; rw [plus_len h, sumK_plus h _ (Nat.le_refl _), h]
theorem sumK_mono {l : List Int} (h : ∀ z ∈ l, 0 ≤ z) (k : Nat) : ∀ j, k + j ≤ l.length → sumK l k ≤ sumK l (k + j)
  | 0, _ => Int.le_refl _
  | j + 1, hj => by
    obtain ⟨x, hx⟩ := get_lt (L := l) (k := k + j) (by omega)
    have h1 := sumK_mono h k j (by omega)
    have h2 := h x (List.mem_of_getElem? hx)
    rw [show k + (j + 1) = (k + j) + 1 by omega, sumK_succ hx]; omega
theorem le_sum {l : List Int} (h : ∀ z ∈ l, 0 ≤ z) {k : Nat} {x : Int} (hx : l[k]? = some x) : x ≤ sumZ l := by
  have hk := glt hx
  have h1 := sumK_mono h (k + 1) (l.length - (k + 1)) (by omega)
  have h0 := sumK_mono h 0 k (by omega)
  rw [show k + 1 + (l.length - (k + 1)) = l.length by omega, sumK_succ hx] at h1
  rw [sumK_zero, Nat.zero_add] at h0
  unfold sumZ; omega
theorem ok_less {cap t : Int} {L : List Int} (ok : COk cap L) (t0 : 0 ≤ t) (tl : t ≤ sumZ L) : COk cap (lessL L (partsL t L)) := by
  have sok := dr_ok ok t0 tl
  have hl := partsL_len t L
  refine ⟨ok.room, by rw [less_len hl]; exact ok.len, fun z hz => ?_, ?_⟩
  · obtain ⟨k, hk⟩ := List.mem_iff_getElem?.mp hz
    have hkl := glt hk
    rw [less_len hl] at hkl
    obtain ⟨x, hx⟩ := get_lt (L := L) (k := k) hkl
    obtain ⟨y, hy⟩ := get_lt (L := partsL t L) (k := k) (by omega)
    rw [less_at hx hy] at hk
    cases hk
    have h1 := dr_part sok tl hy hx
    have h2 := ok.all x (List.mem_of_getElem? hx)
    omega
  · rw [sumZ_less hl, dr_sum sok]; have := ok.sum; omega
theorem ok_plus {cb t : Int} {La Lb : List Int} {ca : Int} (oka : COk ca La) (okb : COk cb Lb) (hl : La.length = Lb.length) (t0 : 0 ≤ t) (tl : t ≤ sumZ La) (h : ¬ cb < sumZ Lb + t) : COk cb (plusL Lb (partsL t La)) := by
  have sok := dr_ok oka t0 tl
  have hp : (partsL t La).length = Lb.length := by rw [partsL_len, hl]
  have hz : ∀ z ∈ plusL Lb (partsL t La), 0 ≤ z := fun z hz => by
    obtain ⟨k, hk⟩ := List.mem_iff_getElem?.mp hz
    have hkl := glt hk
    rw [plus_len hp] at hkl
    obtain ⟨x, hx⟩ := get_lt (L := Lb) (k := k) hkl
    obtain ⟨y, hy⟩ := get_lt (L := partsL t La) (k := k) (by omega)
    rw [plus_at hx hy] at hk
    cases hk
    have h1 := parts_lim oka t0 tl y (List.mem_of_getElem? hy)
    have h2 := okb.all x (List.mem_of_getElem? hx)
    omega
  have hs : sumZ (plusL Lb (partsL t La)) ≤ cb := by rw [sumZ_plus hp, dr_sum sok]; omega
  have hr := okb.room
  refine ⟨okb.room, by rw [plus_len hp]; exact okb.len, fun z h1 => ⟨hz z h1, ?_⟩, hs⟩
  obtain ⟨k, hk⟩ := List.mem_iff_getElem?.mp h1
  have := le_sum hz hk
  omega
theorem plus_less {L m : List Int} (h : m.length = L.length) : plusL (lessL L m) m = L := by
  apply List.ext_getElem?
  intro k
  rcases Nat.lt_or_ge k L.length with hk | hk
  · obtain ⟨x, hx⟩ := get_lt (L := L) (k := k) hk
    obtain ⟨y, hy⟩ := get_lt (L := m) (k := k) (by omega)
    rw [plus_at (less_at hx hy) hy, hx, show x - y + y = x by omega]
  · rw [List.getElem?_eq_none (by rw [plus_len (by rw [less_len h, h]), less_len h]; exact hk), List.getElem?_eq_none hk]
theorem fil_back {cap t : Int} {L : List Int} (ok : COk cap L) (t0 : 0 ≤ t) (tl : t ≤ sumZ L) : filE cap (lessL L (partsL t L)) (partsL t L) = 0 ∧ filC cap (lessL L (partsL t L)) (partsL t L) = cap ∧ filL cap (lessL L (partsL t L)) (partsL t L) = L := by
  have hl := partsL_len t L
  have hk := (ok_less ok t0 tl).ck
  have he : filE cap (lessL L (partsL t L)) (partsL t L) = 0 := by
    rw [filE_end hk (lisE_mk (by rw [less_len hl]; have := ok.len; omega) (by rw [less_len hl]; have := ok.len; omega) (by rw [less_len hl, hl]) (parts_lim ok t0 tl)), sumZ_less hl, dr_sum (dr_ok ok t0 tl), if_neg (by have := ok.sum; omega)]
  exact ⟨he, if_pos he, (if_pos he).trans (plus_less hl)⟩
/-- A draw of the whole level. -/
theorem whole {cap : Int} {L : List Int} (ok : COk cap L) : partsL (sumZ L) L = L := by
  have sok := dr_ok ok ok.pos.1 (Int.le_refl _)
  have hl := partsL_len (sumZ L) L
  have h0 : ∀ z ∈ lessL L (partsL (sumZ L) L), 0 ≤ z := fun z hz => ((ok_less ok ok.pos.1 (Int.le_refl _)).all z hz).1
  have hs : sumZ (lessL L (partsL (sumZ L) L)) = 0 := by rw [sumZ_less hl, dr_sum sok]; omega
  apply List.ext_getElem?
  intro k
  rcases Nat.lt_or_ge k L.length with hk | hk
  · obtain ⟨x, hx⟩ := get_lt (L := L) (k := k) hk
    obtain ⟨p, hp⟩ := get_lt (L := partsL (sumZ L) L) (k := k) (by omega)
    have h1 := le_sum h0 (less_at hx hp)
    have h2 := h0 _ (List.mem_of_getElem? (less_at hx hp))
    rw [hp, hx, show p = x by omega]
  · rw [List.getElem?_eq_none (by omega), List.getElem?_eq_none hk]
theorem whole_zero {L : List Int} : ∀ z ∈ lessL L L, z = 0 := fun z hz => by
  obtain ⟨k, hk⟩ := List.mem_iff_getElem?.mp hz
  have hkl := glt hk
  rw [less_len rfl] at hkl
  obtain ⟨x, hx⟩ := get_lt (L := L) (k := k) hkl
  rw [less_at hx hx] at hk
  have := Option.some.inj hk
  omega
theorem dr_near {t : Int} {L : List Int} (h : Share.Ok t L) {V T : Nat} (hV : sumZ L = (V : Int)) (hT : t = (T : Int)) (h0 : 0 < V) {k x : Nat} {p : Int} (hx : L[k]? = some (x : Int)) (hp : (partsL t L)[k]? = some p) :
    ((T * x / V : Nat) : Int) ≤ p ∧ p ≤ ((T * x / V + (if T * x % V = 0 then 0 else 1) : Nat) : Int) := by
  have hk := glt hx
  rw [partsL_at t hk] at hp
  have hp' := Option.some.inj hp
  have e1 := h.twI
  have e2 : Share.tw (wf L) L.length = V := by unfold sumZ at hV; omega
  have h1 := part_near (T := t.toNat) (w := wf L) (n := L.length) (by rw [e2]; exact h0) k
  unfold Share.quo Share.rst at h1
  have ex : wf L k = x := by have := wf_at hx (by omega); omega
  rw [e2, ex, show t.toNat = T by omega] at h1
  rw [show t.toNat = T by omega] at hp'
  rw [← hp']
  exact ⟨Int.ofNat_le.mpr h1.1, Int.ofNat_le.mpr h1.2⟩
theorem drE_no {cap t : Int} {L : List Int} (hk : ckC cap L = 0) (h : ¬ drE cap L t = 0) : t < 0 ∨ sumZ L < t := by
  have ok := ckC_ok hk
  have h1 := ok.pos
  rcases Int.lt_or_le t 0 with h0 | h0
  · exact Or.inl h0
  · rcases Int.lt_or_le (sumZ L) t with h2 | h2
    · exact Or.inr h2
    · exact absurd (drE_ok hk ⟨h0, by omega⟩ (by omega)) h
end Go.Proofs.YtagjimdplmimoaaGreat.Chest
/- What the stage's theorems lean on: sums, proportions (pure). -/
namespace Go.Proofs.YtagjimdplmimoaaGreat.Tank
set_option linter.unusedVariables false

def sumR : List Rat → Rat
  | [] => 0
  | a :: l => a + sumR l
theorem tot_val : ∀ {l : List Rat} {s r : Rat}, tot l s = some r → r = s + sumR l
  | [], s, r, h => by rw [tot] at h; cases h; rw [sumR, Rat.add_zero]
  | a :: l, s, r, h => by
    rw [tot] at h
    split at h
    · rw [tot_val h, sumR, Rat.add_assoc]
    · cases h
theorem sumV_val {L : List Trip} (h : sumE L = 0) : sumV L = sumR (qs L) := by
  have := tot_val (sumE_of h).2
  rw [this, Rat.zero_add]
theorem num_ne {v : Rat} (h : v.num ≠ 0) : v ≠ 0 := fun e => h (by rw [e]; rfl)
theorem tkX_eq (p m v : Rat) : tkX p m v = p * m * v⁻¹ := rfl
theorem tkY_eq (p m v : Rat) : tkY p m v = p + -(p * m * v⁻¹) := rfl
theorem tk_sum (p m v : Rat) : tkY p m v + tkX p m v = p := by
  rw [tkY_eq, tkX_eq, Rat.add_assoc, Rat.neg_add_cancel, Rat.add_zero]
theorem tk_prop {p m v : Rat} (h : v ≠ 0) : tkX p m v * v = p * m := by
  rw [tkX_eq, Rat.mul_assoc, Rat.inv_mul_cancel v h, Rat.mul_one]
theorem sumR_X (m v : Rat) : ∀ l : List Rat, sumR (l.map fun p => tkX p m v) = sumR l * m * v⁻¹
  | [] => by rw [List.map_nil, sumR, Rat.zero_mul, Rat.zero_mul]
  | a :: l => by rw [List.map_cons, sumR, sumR, sumR_X m v l, tkX_eq, Rat.add_mul, Rat.add_mul]
theorem sumR_X_all {l : List Rat} {m v : Rat} (h : sumR l = v) (h0 : v ≠ 0) : sumR (l.map fun p => tkX p m v) = m := by
  rw [sumR_X, h, Rat.mul_comm v m, Rat.mul_assoc, Rat.mul_inv_cancel v h0, Rat.mul_one]
theorem sumR_Y (m v : Rat) : ∀ l : List Rat, sumR (l.map fun p => tkY p m v) = sumR l + -(sumR l * m * v⁻¹)
  | [] => by rw [List.map_nil, sumR, Rat.zero_mul, Rat.zero_mul]; decide +kernel
  | a :: l => by
    rw [List.map_cons, sumR, sumR, sumR_Y m v l, tkY_eq]
    grind
theorem sumR_Y_all {l : List Rat} {m v : Rat} (h : sumR l = v) (h0 : v ≠ 0) : sumR (l.map fun p => tkY p m v) = v + -m := by
  rw [sumR_Y, h, Rat.mul_comm v m, Rat.mul_assoc, Rat.mul_inv_cancel v h0, Rat.mul_one]
/-- A draw leaves each share as it was. -/
theorem tk_mixed {p m v : Rat} (h0 : v ≠ 0) (h1 : v + -m ≠ 0) : tkY p m v * (v + -m)⁻¹ = p * v⁻¹ := by
  have e : tkY p m v = p * v⁻¹ * (v + -m) := by
    rw [tkY_eq]
    have := Rat.mul_inv_cancel v h0
    grind
  rw [e, Rat.mul_assoc, Rat.mul_inv_cancel _ h1, Rat.mul_one]
theorem tk_nonneg {p m v : Rat} (hp : 0 ≤ p) (hm : 0 ≤ m) (hv : 0 < v) (h : m ≤ v) : 0 ≤ tkX p m v ∧ 0 ≤ tkY p m v := by
  have hi : 0 ≤ v⁻¹ := Rat.le_of_lt (Rat.inv_pos.mpr hv)
  have h0 : v ≠ 0 := fun e => by rw [e] at hv; exact absurd hv (by decide +kernel)
  have h1 : 0 ≤ tkX p m v := by rw [tkX_eq]; exact Rat.mul_nonneg (Rat.mul_nonneg hp hm) hi
  refine ⟨h1, ?_⟩
  have e : tkY p m v = p * (v + -m) * v⁻¹ := by
    rw [tkY_eq]
    have := Rat.mul_inv_cancel v h0
    grind
  rw [e]
  exact Rat.mul_nonneg (Rat.mul_nonneg hp (by grind)) hi
end Go.Proofs.YtagjimdplmimoaaGreat.Tank
/- Order of numbers as Cmp tells it; what a tank without an error, and a draw without an error, say (pure). -/
namespace Go.Proofs.YtagjimdplmimoaaGreat.Tank
set_option linter.unusedVariables false

theorem cmpI_neg' (x y : Int) : cmpI (-x) (-y) = -cmpI x y := by
  rcases Int.lt_trichotomy x y with h | h | h
  · rw [cmpI_lt h, cmpI_gt (by omega)]; rfl
  · subst h; rw [cmpI_eq, cmpI_eq]; rfl
  · rw [cmpI_gt h, cmpI_lt (by omega)]
theorem neg_abs_pos' {r : Rat} (h : negR r = true) : 0 < r.num.natAbs := by
  unfold negR at h; have := of_decide_eq_true h; omega
theorem den_pos' (r : Rat) : 0 < r.den := Nat.pos_of_ne_zero r.den_nz
theorem cmpQ_val' (r s : Rat) : cmpQ r s = cmpI (r.num * s.den) (s.num * r.den) := by
  have e1 : r.num * s.den = sgI (negR r) (r.num.natAbs * s.den) := by rw [sgI_mulN, sgI_neg]
  have e2 : s.num * r.den = sgI (negR s) (s.num.natAbs * r.den) := by rw [sgI_mulN, sgI_neg]
  rw [e1, e2]
  unfold cmpQ
  rcases bcase (negR r) with h1 | h1 <;> rcases bcase (negR s) with h2 | h2
  · rw [h1, h2, if_pos rfl, if_pos rfl]; simp only [sgI, if_true]; rw [cmpI_neg']
  · have := Nat.mul_pos (neg_abs_pos' h1) (den_pos' s)
    rw [h1, h2, if_pos rfl, if_neg (by decide)]
    simp only [sgI, if_true, Bool.false_eq_true, if_false]
    rw [cmpI_lt (by omega)]
  · have := Nat.mul_pos (neg_abs_pos' h2) (den_pos' r)
    rw [h1, h2, if_neg (by decide), if_pos rfl]
    simp only [sgI, if_true, Bool.false_eq_true, if_false]
    rw [cmpI_gt (by omega)]
  · rw [h1, h2, if_neg (by decide), if_neg (by decide)]
    simp only [sgI, Bool.false_eq_true, if_false]
theorem cmpG_pos {r s : Rat} (h : crossOk r s = true) : 0 < cmpG r s ↔ s < r := by
  unfold cmpG
  rw [if_pos h, cmpQ_val', Rat.lt_iff]
  rcases Int.lt_trichotomy (r.num * s.den) (s.num * r.den) with h | h | h
  · rw [cmpI_lt h]; constructor <;> intro k <;> omega
  · rw [h, cmpI_eq]; constructor <;> intro k <;> omega
  · rw [cmpI_gt h]; constructor <;> intro k <;> omega
theorem qI_num (n : Int) : (qI n).num = n ∧ (qI n).den = 1 := by rw [qI_val]; exact ⟨rfl, rfl⟩
theorem neg_iff {r : Rat} : negR r = false ↔ 0 ≤ r := by
  unfold negR
  rw [decide_eq_false_iff_not, ← Rat.num_nonneg]
  omega
theorem qI_le {m n : Int} (h : m ≤ n) : qI m ≤ qI n := by rw [qI_val, qI_val]; exact Rat.intCast_le_intCast.mpr h
/-- What a tank without an error says. -/
theorem TOk.level {cap : Int} {L : List Trip} (h : TOk cap L) : sumV L = sumR (qs L) ∧ sumV L ≤ qI cap ∧ (∀ q ∈ qs L, fitR q = true ∧ 0 ≤ q) := by
  refine ⟨sumV_val h.sum, ?_, fun q hq => ?_⟩
  · exact Rat.not_lt.mp fun k => h.le ((cmpG_pos h.cross).mpr k)
  · obtain ⟨t, ht, rfl⟩ := List.mem_map.mp hq
    obtain ⟨h1, h2⟩ := h.all t ht
    obtain ⟨h3, h4, -, -⟩ := trip_form h1
    exact ⟨h3, neg_iff.mp (by rw [← h4]; exact h2)⟩
theorem sumR_nonneg : ∀ {l : List Rat}, (∀ q ∈ l, 0 ≤ q) → 0 ≤ sumR l
  | [], _ => by rw [sumR]; exact Rat.le_refl
  | a :: l, h => by
    rw [sumR]
    exact Rat.add_nonneg (h a (List.mem_cons_self ..)) (sumR_nonneg fun q hq => h q (List.mem_cons_of_mem _ hq))
theorem DOk.cross {cap : Int} {L : List Trip} {mass : Int} (h : DOk cap L mass) : crossOk (qI mass) (sumV L) = true := by
  have h1 := h.t.cross
  unfold crossOk at h1 ⊢
  rw [Bool.and_eq_true, decide_eq_true_iff, decide_eq_true_iff, (qI_num _).1, (qI_num _).2] at h1
  rw [Bool.and_eq_true, decide_eq_true_iff, decide_eq_true_iff, (qI_num _).1, (qI_num _).2]
  refine ⟨Nat.lt_of_le_of_lt (Nat.mul_le_mul_right _ ?_) h1.2, h1.1⟩
  have := h.m0
  have := h.mc
  omega
theorem DOk.mass_le {cap : Int} {L : List Trip} {mass : Int} (h : DOk cap L mass) : qI mass ≤ sumV L :=
  Rat.not_lt.mp fun k => h.ml ((cmpG_pos h.cross).mpr k)
end Go.Proofs.YtagjimdplmimoaaGreat.Tank
/- Check, Level of the reference. -/
namespace Go.Proofs.YtagjimdplmimoaaGreat.Tank
open Go.ChangeShapes Go.WideShapes Go.RowKit Go.Lib
open Go.Proofs.YtagjimdplmimoaaGreat.Rw (Rd Row Kd glt get_lt rd_one flat_len below_alloc bstep wrap_id below_drewN below_drew drew_below)
set_option linter.unusedVariables false
set_option maxRecDepth 100000

theorem ckT_cap {cap : Int} {L : List Trip} (h : ¬ (1 ≤ cap ∧ cap ≤ MM)) : ckT cap L = 1 := if_neg h
theorem ckT_in {cap : Int} {L : List Trip} (h : 1 ≤ cap ∧ cap ≤ MM) : ckT cap L = ckN cap L := if_pos h
theorem ckN_len {cap : Int} {L : List Trip} (h : ¬ (1 ≤ L.length ∧ L.length ≤ 8)) : ckN cap L = 17 := if_neg h
theorem ckN_in {cap : Int} {L : List Trip} (h : 1 ≤ L.length ∧ L.length ≤ 8) : ckN cap L = if ckP L = 0 then ckS cap L else ckP L := if_pos h
/-- The level, or the error of Check. -/
theorem rres_sum {w w' : World} {err err2 : Int} {r : Rat} {e : Ending} (h : RRes w err r e w') (he : err = err2) : RRes w err2 r e w' := he ▸ h
end Go.Proofs.YtagjimdplmimoaaGreat.Tank
/- New of the reference. -/
namespace Go.Proofs.YtagjimdplmimoaaGreat.Tank
open Go.ChangeShapes Go.WideShapes Go.RowKit Go.Lib
open Go.Proofs.YtagjimdplmimoaaGreat.Rw (Rd Row Kd glt get_lt rd_one flat_len below_alloc bstep wrap_id below_drewN below_drew drew_below step_rows append_rows step_rowsF append_rowsF)
set_option linter.unusedVariables false
set_option maxRecDepth 100000

def nwE (kinds cap : Int) : Int := if 1 ≤ kinds ∧ kinds ≤ 8 then (if 1 ≤ cap ∧ cap ≤ MM then 0 else 1) else 17
def nwC (kinds cap : Int) : Int := if nwE kinds cap = 0 then cap else 0
def nwL (kinds cap : Int) : List Trip := if nwE kinds cap = 0 then List.replicate kinds.toNat (triR 0) else []
theorem nw_no {kinds cap E : Int} (h : nwE kinds cap = E) (h0 : ¬ E = 0) : nwC kinds cap = 0 ∧ nwL kinds cap = [] := by
  unfold nwC nwL
  rw [h, if_neg h0, if_neg h0]; exact ⟨rfl, rfl⟩
theorem res_no {fn : Func} {w w' : World} {tmps : Array Value} {p u : Tmp} {err : Int} (h : fn.results = #[.cell p 32, .tmp u]) {g : Nat} (hp : tmps.getD p undef = .pointer (some ⟨g, 0, none⟩)) (hu : tmps.getD u undef = .int .i64 err)
    (hc : Rw.Cel w' g [.int .i64 0, .slice none 0 0]) : (results fn tmps).run Tryz.prog w' = .ok (.tuple #[.agg #[.int .i64 0, .slice none 0 0], .int .i64 err]) w' := by rw [← hu]; exact res_tank2 h hp hc
end Go.Proofs.YtagjimdplmimoaaGreat.Tank
/- Fill of the reference. -/
namespace Go.Proofs.YtagjimdplmimoaaGreat.Tank
open Go.ChangeShapes Go.WideShapes Go.RowKit Go.Lib
open Go.Proofs.YtagjimdplmimoaaGreat.Mem (Cl eI Own)
open Go.Proofs.YtagjimdplmimoaaGreat.Rw (Rd Kd glt get_lt rd_one flat_len below_alloc bstep wrap_id below_drewN below_drew drew_below step_rowsF append_rowsF take_snoc_of)
set_option linter.unusedVariables false
set_option maxRecDepth 100000

theorem qs_at' {L : List Trip} {k : Nat} {t : Trip} (h : L[k]? = some t) : (qs L)[k]? = some (rT t) := qs_at h
theorem qs_fit {L : List Trip} (h : ∀ t ∈ L, vT t = true) : ∀ q ∈ qs L, fitR q = true := fun q hq => by
  obtain ⟨t, ht, rfl⟩ := List.mem_map.mp hq
  exact (trip_form (h t ht)).1
theorem ts_valid {Q : List Rat} (h : ∀ q ∈ Q, fitR q = true) : ∀ t ∈ ts Q, vT t = true := fun t ht => by
  obtain ⟨q, hq, rfl⟩ := List.mem_map.mp ht
  exact vT_tri (h q hq)
theorem ts_take_succ {Q : List Rat} {k : Nat} {q : Rat} (h : Q[k]? = some q) : ts (Q.take (k + 1)) = ts (Q.take k) ++ [triR q] := by
  rw [take_snoc_of h]
  unfold ts
  rw [List.map_append]; rfl
theorem trip_isR {w : World} {v : Value} {t : Trip} (h : vT t = true) (hi : InR w v t.1 t.2.1 t.2.2) : IsR w v (rT t) := trip_is h hi
/-- The number that a call left in a new box. -/
def Boxed (w : World) (err : Int) (r : Rat) (x y : Value) (wz : World) : Prop :=
  ∃ g b A1 n1 c1 B1 m1 d1, x = .pointer (some ⟨g, 0, none⟩) ∧ y = .int .i64 err ∧ Rw.Cel wz g [.bool b, .slice A1 n1 c1, .slice B1 m1 d1] ∧ OutR wz (.agg #[.bool b, .slice A1 n1 c1, .slice B1 m1 d1]) err r ∧ Below w.heap.size w wz ∧ w.heap.size ≤ g
theorem after_zero {w w4 : World} (h : Below ((w.alloc (.cells #[.bool false, .slice none 0 0, .slice none 0 0] 46)).drew).heap.size ((w.alloc (.cells #[.bool false, .slice none 0 0, .slice none 0 0] 46)).drew) w4) : Rw.Cel w4 w.heap.size [.bool false, .slice none 0 0, .slice none 0 0] := ((Rw.Cel.new w [.bool false, .slice none 0 0, .slice none 0 0] 46).drew).on h
theorem cl_below {w w4 : World} (h : Below w.drew.heap.size w.drew w4 ∨ Below ((w.alloc (.cells #[.bool false, .slice none 0 0, .slice none 0 0] 46)).drew).heap.size ((w.alloc (.cells #[.bool false, .slice none 0 0, .slice none 0 0] 46)).drew) w4) : Below w.heap.size w w4 := by
  rcases h with h | h
  · exact bstep (drew_below _) h
  · exact bstep (below_drew (below_alloc _ _)) h
theorem Boxed.new {w w6 : World} {err : Int} {r : Rat} {b : Bool} {A1 B1 : Option Addr} {n1 c1 m1 d1 : Nat} (ho : OutR w6 (.agg #[.bool b, .slice A1 n1 c1, .slice B1 m1 d1]) err r) (hb : Below w.heap.size w w6) : Boxed w err r (.pointer (some ⟨w6.heap.size, 0, none⟩)) (.int .i64 err) (w6.alloc (.cells #[.bool b, .slice A1 n1 c1, .slice B1 m1 d1] 46)) :=
  ⟨_, _, _, _, _, _, _, _, rfl, rfl, Rw.Cel.new w6 [_, _, _] _, ho.on (below_alloc _ _), bstep hb (below_alloc _ _), hb.size⟩
theorem Boxed.put {w w6 : World} {err : Int} {r : Rat} {b : Bool} {A1 B1 : Option Addr} {n1 c1 m1 d1 : Nat} (ho : OutR w6 (.agg #[.bool b, .slice A1 n1 c1, .slice B1 m1 d1]) err r) (hb : Below w.heap.size w w6) {g : Nat} (hc : Rw.Cel w6 g [.bool false, .slice none 0 0, .slice none 0 0]) (hg : w.heap.size ≤ g) : Boxed w err r (.pointer (some ⟨g, 0, none⟩)) (.int .i64 err) (((w6.setCell ⟨g, 0, none⟩ (.bool b)).setCell ⟨g, 1, none⟩ (.slice A1 n1 c1)).setCell ⟨g, 2, none⟩ (.slice B1 m1 d1)) :=
  ⟨_, _, _, _, _, _, _, _, rfl, rfl, hc.put3 _ _ _, OutR.put3 ho (cel_root hc) _ _ _, Rw.below_put3 hb hg _ _ _, hg⟩
theorem filE_ck {cap : Int} {L : List Trip} {m : List Int} (h : ¬ ckT cap L = 0) : filE cap L m = ckT cap L ∧ filC cap L m = 0 ∧ filL cap L m = [] := by
  have h1 : filE cap L m = ckT cap L := if_neg h
  exact ⟨h1, if_neg (by rw [h1]; exact h), if_neg (by rw [h1]; exact h)⟩
theorem filE_par {cap : Int} {L : List Trip} {m : List Int} (h : ckT cap L = 0) (h2 : ¬ parE m (L.length : Int) = 0) : filE cap L m = parE m (L.length : Int) ∧ filC cap L m = 0 ∧ filL cap L m = [] := by
  have h1 : filE cap L m = parE m (L.length : Int) := by unfold filE; rw [if_pos h, if_neg h2]
  exact ⟨h1, if_neg (by rw [h1]; exact h2), if_neg (by rw [h1]; exact h2)⟩
theorem filE_over {cap : Int} {L : List Trip} {m : List Int} (h : ckT cap L = 0) (h2 : parE m (L.length : Int) = 0) (h3 : filB (qs L) m = false) : filE cap L m = 2 ∧ filC cap L m = 0 ∧ filL cap L m = [] := by
  have h1 : filE cap L m = 2 := by unfold filE; rw [if_pos h, if_pos h2, h3]; rfl
  exact ⟨h1, if_neg (by rw [h1]; decide), if_neg (by rw [h1]; decide)⟩
theorem filE_end {cap : Int} {L : List Trip} {m : List Int} (h : ckT cap L = 0) (h2 : parE m (L.length : Int) = 0) (h3 : filB (qs L) m = true) : filE cap L m = ckT cap (ts (filV (qs L) m)) := by
  unfold filE; rw [if_pos h, if_pos h2, if_pos h3]
end Go.Proofs.YtagjimdplmimoaaGreat.Tank
/- The program of the stage: contracts of rat at valid numbers, the level against a mass, first errors; what a function that is handed on must keep. -/
namespace Go.Proofs.YtagjimdplmimoaaGreat.Tank
open Go.ChangeShapes Go.WideShapes Go.RowKit Go.Lib
open Go.Proofs.YtagjimdplmimoaaGreat.Rw (Rd Row Kd glt get_lt flat_len flat_at own_set below_alloc bstep wrap_id below_drewN below_drew drew_below take_snoc_of)
set_option linter.unusedVariables false
set_option maxRecDepth 100000

/-! ### rat at valid numbers -/
theorem yq_Add (r s : Rat) (hr : fitR r = true) (hs : fitR s = true) (v u : Value) (w : World) (hv : IsR w v r) (hu : IsR w u s) :
    Calls Tryz.prog 39 #[v, u] w (RRes w (okE (sumOk r s)) (r + s)) := by
  have h := rat_Add (negR r) (topL r) (botL r) (negR s) (topL s) (botL s) v u w hv hu
  rw [(op_form (ok := sumOk) (f := addOp) hr hs).1, (op_form (ok := sumOk) (f := addOp) hr hs).2] at h
  exact h
theorem yq_Sub (r s : Rat) (hr : fitR r = true) (hs : fitR s = true) (v u : Value) (w : World) (hv : IsR w v r) (hu : IsR w u s) :
    Calls Tryz.prog 32 #[v, u] w (RRes w (okE (subOk r s)) (subOp r s)) := by
  have h := rat_Sub (negR r) (topL r) (botL r) (negR s) (topL s) (botL s) v u w hv hu
  rw [(op_form (ok := subOk) (f := subOp) hr hs).1, (op_form (ok := subOk) (f := subOp) hr hs).2] at h
  exact h
theorem yq_Mul (r s : Rat) (hr : fitR r = true) (hs : fitR s = true) (v u : Value) (w : World) (hv : IsR w v r) (hu : IsR w u s) :
    Calls Tryz.prog 46 #[v, u] w (RRes w (okE (mulOk r s)) (r * s)) := by
  have h := rat_Mul (negR r) (topL r) (botL r) (negR s) (topL s) (botL s) v u w hv hu
  rw [(op_form (ok := mulOk) (f := mulOp) hr hs).1, (op_form (ok := mulOk) (f := mulOp) hr hs).2] at h
  exact h
theorem yq_Div (r s : Rat) (hr : fitR r = true) (hs : fitR s = true) (v u : Value) (w : World) (hv : IsR w v r) (hu : IsR w u s) :
    Calls Tryz.prog 47 #[v, u] w (RRes w (divEr r s) (divOp r s)) := by
  have h := rat_Div (negR r) (topL r) (botL r) (negR s) (topL s) (botL s) v u w hv hu
  rw [(opG_form (er := divEr) (f := divOp) hr hs).1, (opG_form (er := divEr) (f := divOp) hr hs).2] at h
  exact h
theorem yq_Cmp (r s : Rat) (hr : fitR r = true) (hs : fitR s = true) (v u : Value) (w : World) (hv : IsR w v r) (hu : IsR w u s) :
    Calls Tryz.prog 34 #[v, u] w fun e w' => e = .returned (.tuple #[.int .i64 (cmpG r s), .int .i64 (okE (crossOk r s))]) ∧ Below w.heap.size w w' := by
  have h := rat_Cmp (negR r) (topL r) (botL r) (negR s) (topL s) (botL s) v u w hv hu
  rw [cmpW_form hr hs, (op_form (ok := crossOk) (f := addOp) hr hs).1] at h
  exact h
theorem yq_Of (n : Int) (h : 0 ≤ n) (h2 : n ≤ 1099511627776) (w : World) : Calls Tryz.prog 20 #[.int .i64 n] w (RRes w 0 (qI n)) := by
  have := rat_Of n w (by omega) (by omega)
  rw [qI_ok h h2] at this
  exact this
theorem rQ_le {r : Rat} {m : Int} (h0 : 0 ≤ r) (m0 : 0 ≤ m) (h1 : r ≤ qI m) : (rQ r : Int) ≤ m := by
  rw [Rat.le_iff, (qI_num m).1, (qI_num m).2] at h1
  have hn : 0 ≤ r.num := Rat.num_nonneg.mpr h0
  obtain ⟨M, rfl⟩ : ∃ M : Nat, m = M := ⟨m.toNat, by omega⟩
  obtain ⟨K, hK⟩ : ∃ K : Nat, r.num = K := ⟨r.num.toNat, by omega⟩
  rw [hK] at h1
  unfold rQ
  rw [hK]
  have h2 : K ≤ r.den * M := by
    have h3 : ((K * 1 : Nat) : Int) ≤ ((M * r.den : Nat) : Int) := by rw [Int.natCast_mul, Int.natCast_mul]; exact h1
    have h4 := Int.ofNat_le.mp h3
    rw [Nat.mul_comm r.den M]; omega
  have h5 : K / r.den ≤ M := Nat.div_le_of_le_mul h2
  show ((K / r.den : Nat) : Int) ≤ (M : Int)
  omega
theorem rQ_lt_iff {r : Rat} {m : Int} (h0 : 0 ≤ r) (m0 : 0 ≤ m) : (rQ r : Int) < m ↔ r < qI m := by
  rw [Rat.lt_iff, (qI_num m).1, (qI_num m).2]
  have hn : 0 ≤ r.num := Rat.num_nonneg.mpr h0
  obtain ⟨M, rfl⟩ : ∃ M : Nat, m = M := ⟨m.toNat, by omega⟩
  obtain ⟨K, hK⟩ : ∃ K : Nat, r.num = K := ⟨r.num.toNat, by omega⟩
  unfold rQ
  rw [hK]
  have h1 := Nat.div_lt_iff_lt_mul (x := K) (y := M) (den_pos' r)
  have h2 : ((K : Int) * ((1 : Nat) : Int) < (M : Int) * (r.den : Int)) ↔ K < M * r.den := by
    rw [← Int.natCast_mul, ← Int.natCast_mul, Nat.mul_one]; exact Int.ofNat_lt
  rw [h2, ← h1]
  show ((K / r.den : Nat) : Int) < (M : Int) ↔ _
  omega
/-- The greatest integer that is not above. -/
theorem yq_Floor (r : Rat) (hr : fitR r = true) (h0 : 0 ≤ r) (h1 : r ≤ qI MM) (v : Value) (w : World) (hv : IsR w v r) :
    Calls Tryz.prog 29 #[v] w fun e w' => e = .returned (.tuple #[.int .i64 (rQ r : Int), .int .i64 0]) ∧ Below w.heap.size w w' := by
  have h := rat_Floor (negR r) (topL r) (botL r) v w hv
  have hn : negR r = false := neg_iff.mpr h0
  have hM : MM = 1099511627776 := rfl
  have hq := rQ_le h0 (by omega) h1
  have hq2 : rmag r false = rQ r := rmag_down r
  have hq3 : rQ r ≤ 1125899906842624 := by omega
  obtain ⟨e1, e2⟩ := rnd_ok hq2 hq3
  have f1 : floorV (negR r) (topL r) (botL r) = (rQ r : Int) := by
    unfold floorV
    rw [rW_form hr, hn, e1, hn]; rfl
  have f2 : floorE (negR r) (topL r) (botL r) = 0 := by
    unfold floorE
    rw [rE_form hr, hn, e2]
  rw [f1, f2] at h
  exact h
/-! ### The level against a mass -/
theorem cross_le {cap : Int} {L : List Trip} {mass : Int} (h : TOk cap L) (m0 : 0 ≤ mass) (mc : mass ≤ cap) : crossOk (qI mass) (sumV L) = true := by
  have h1 := h.cross
  unfold crossOk at h1 ⊢
  rw [Bool.and_eq_true, decide_eq_true_iff, decide_eq_true_iff, (qI_num _).1, (qI_num _).2] at h1
  rw [Bool.and_eq_true, decide_eq_true_iff, decide_eq_true_iff, (qI_num _).1, (qI_num _).2]
  exact ⟨Nat.lt_of_le_of_lt (Nat.mul_le_mul_right _ (by omega)) h1.2, h1.1⟩
theorem TOk.pos {cap : Int} {L : List Trip} (h : TOk cap L) : 0 ≤ sumV L ∧ sumV L ≤ qI MM ∧ fitR (sumV L) = true := by
  obtain ⟨h1, h2, h3⟩ := h.level
  refine ⟨by rw [h1]; exact sumR_nonneg fun q hq => (h3 q hq).2, Rat.le_trans h2 (qI_le h.c1), sumE_fit h.sum⟩
theorem stock_iff {cap : Int} {L : List Trip} {mass : Int} (h : TOk cap L) (m0 : 0 ≤ mass) : (rQ (sumV L) : Int) < mass ↔ (cap < mass ∨ 0 < cmpG (qI mass) (sumV L)) := by
  rw [rQ_lt_iff h.pos.1 m0]
  constructor
  · intro k
    rcases Int.lt_or_le cap mass with hc | hc
    · exact Or.inl hc
    · exact Or.inr ((cmpG_pos (cross_le h m0 hc)).mpr k)
  · intro k
    rcases Int.lt_or_le cap mass with hc | hc
    · refine Rat.not_le.mp fun k2 => ?_
      have k3 := Rat.le_trans k2 h.level.2.1
      rw [qI_val, qI_val] at k3
      have := Rat.intCast_le_intCast.mp k3
      omega
    · rcases k with k | k
      · omega
      · exact (cmpG_pos (cross_le h m0 hc)).mp k
/-! ### Nothing is taken -/
theorem sub_zero_ok {p : Rat} (h : fitR p = true) : subOk p 0 = true ∧ subOp p 0 = p := by
  have hn : -(0 : Rat) = 0 := by decide +kernel
  obtain ⟨h1, h2⟩ := fitR_iff.mp h
  unfold subOk subOp
  rw [hn, Rat.add_zero]
  refine ⟨?_, rfl⟩
  have e1 : (0 : Rat).num = 0 := rfl
  have e2 : (0 : Rat).den = 1 := rfl
  unfold sumOk
  rw [e1, e2, Nat.mul_one, Nat.mul_one, Int.natAbs_zero, Nat.zero_mul, Nat.add_zero, decide_eq_true h1, decide_eq_true h2, decide_eq_true big48_pos, Bool.or_true]; rfl
/-! ### First errors -/
def fE (er : Nat → Int) : Nat → Int
  | 0 => 0
  | n + 1 => if fE er n = 0 then er n else fE er n
theorem fE_ok {er : Nat → Int} : ∀ {n : Nat}, (∀ j, j < n → er j = 0) → fE er n = 0
  | 0, _ => rfl
  | n + 1, h => by rw [fE, if_pos (fE_ok fun j hj => h j (by omega))]; exact h n (by omega)
theorem fE_bad {er : Nat → Int} {k : Nat} (hb : ¬ er k = 0) (ha : ∀ j, j < k → er j = 0) : ∀ {n : Nat}, k < n → fE er n = er k
  | 0, h => by omega
  | n + 1, h => by
    rcases Nat.lt_or_eq_of_le (Nat.le_of_lt_succ h) with h1 | h1
    · rw [fE, fE_bad hb ha h1, if_neg hb]
    · subst h1
      rw [fE, if_pos (fE_ok ha)]
theorem fE_spec (er : Nat → Int) : ∀ n : Nat, (fE er n = 0 ∧ ∀ j, j < n → er j = 0) ∨ ∃ k, k < n ∧ ¬ er k = 0 ∧ fE er n = er k ∧ ∀ j, j < k → er j = 0
  | 0 => Or.inl ⟨rfl, fun j h => by omega⟩
  | n + 1 => by
    rcases fE_spec er n with ⟨h1, h2⟩ | ⟨k, h1, h2, h3, h4⟩
    · by_cases h : er n = 0
      · refine Or.inl ⟨by rw [fE, if_pos h1]; exact h, fun j hj => ?_⟩
        rcases Nat.lt_or_eq_of_le (Nat.le_of_lt_succ hj) with h5 | h5
        · exact h2 j h5
        · subst h5; exact h
      · exact Or.inr ⟨n, by omega, h, by rw [fE, if_pos h1], h2⟩
    · exact Or.inr ⟨k, by omega, h2, by rw [fE, h3, if_neg h2], h4⟩
/-! ### Numbers that stay what they are -/
def zT : Trip := (false, [], [])
/-- A number, or the zero value. -/
def vZ (t : Trip) : Prop := vT t = true ∨ t = zT
/-- Numbers that lie in the memory are as they were. -/
def Kep (w w' : World) : Prop := ∀ (t : Trip) (v : Value), vZ t → InR w v t.1 t.2.1 t.2.2 → InR w' v t.1 t.2.1 t.2.2
theorem Kep.refl (w : World) : Kep w w := fun _ _ _ h => h
theorem Kep.trans {a b c : World} (h : Kep a b) (k : Kep b c) : Kep a c := fun t v hz hi => k t v hz (h t v hz hi)
theorem Kep.of {w w' : World} (h : Below w.heap.size w w') : Kep w w' := fun t v _ hi => hi.on h
theorem Kep.isR {w w' : World} {v : Value} {r : Rat} (h : Kep w w') (hr : fitR r = true) (hi : IsR w v r) : IsR w' v r := h (triR r) v (Or.inl (vT_tri hr)) hi
theorem Kep.set {w : World} {p : Addr} {u : Value} (hx : w.cell? p = some u) (hu : ∀ z, u ≠ .int .i64 z) (x : Value) : Kep w (w.setCell p x) := fun t v _ hi => by
  obtain ⟨vp, vq, e, h1, h2⟩ := hi
  exact ⟨vp, vq, e, h1.set hx hu x, h2.set hx hu x⟩
theorem in_nil_any {w w' : World} {v : Value} (h : In w v []) : In w' v [] := by
  obtain ⟨A, c, e, h1, h2, h3⟩ := h
  exact ⟨A, c, e, h1, h2, fun k z hz => by simp at hz⟩
theorem Kep.tank {w : World} {g : Nat} {A : Option Addr} {n c : Nat} (hc : Rw.Cel w g [.int .i64 0, .slice A n c]) (x y : Value) : Kep w ((w.setCell ⟨g, 0, none⟩ x).setCell ⟨g, 1, none⟩ y) := fun t v hz hi => by
  obtain ⟨vp, vq, e, h1, h2⟩ := hi
  rcases hz with hz | rfl
  · obtain ⟨v1, v2⟩ := vT_valid hz
    exact ⟨vp, vq, e, In.tank h1 v1 hc x y, In.tank h2 v2 hc x y⟩
  · exact ⟨vp, vq, e, in_nil_any h1, in_nil_any h2⟩
theorem inR_cells {w : World} {b b' : Bool} {s1 s2 : Value} {xs ys : List Int} (h : InR w (.agg #[.bool b, s1, s2]) b' xs ys) : b = b' ∧ In w s1 xs ∧ In w s2 ys := by
  obtain ⟨vp, vq, e, h1, h2⟩ := h
  simp only [Value.agg.injEq, Array.mk.injEq, List.cons.injEq, Value.bool.injEq, and_true] at e
  obtain ⟨e1, e2, e3⟩ := e
  subst e1; subst e2; subst e3
  exact ⟨rfl, h1, h2⟩
theorem Kep.two {w w' : World} (h : Kep w w') {t : Trip} (hz : vZ t) {s1 s2 : Value} (h1 : In w s1 t.2.1) (h2 : In w s2 t.2.2) : In w' s1 t.2.1 ∧ In w' s2 t.2.2 :=
  (inR_cells (h t (.agg #[.bool t.1, s1, s2]) hz ⟨_, _, rfl, h1, h2⟩)).2
theorem Ins.kep {w w' : World} {R : List Raw} {L : List Trip} (h : Ins w R L) (hk : Kep w w') (hz : ∀ t ∈ L, vZ t) : Ins w' R L :=
  ⟨h.1, fun k r t hr ht => by
    obtain ⟨h1, h2, h3⟩ := h.2 k r t hr ht
    obtain ⟨h4, h5⟩ := hk.two (hz t (List.mem_of_getElem? ht)) h2 h3
    exact ⟨h1, h4, h5⟩⟩
/-- A slice of numbers, its cells below B. -/
theorem Rats.kep {w w' : World} {A : Option Addr} {L : List Trip} {B : Nat} (h : Rats w A L) (hA : ∀ b off, A = some ⟨b, off, none⟩ → b < B) (hz : ∀ t ∈ L, vZ t) (hb : Below B w w') (hk : Kep w w') : Rats w' A L := by
  intro k t ht
  obtain ⟨b, off, A1, c1, A2, c2, e, hlt, ⟨c0, c1', c2'⟩, i1, i2⟩ := h k t ht
  obtain ⟨j1, j2⟩ := hk.two (hz t (List.mem_of_getElem? ht)) i1 i2
  have hB := hb.block b (hA b off e)
  have hc : ∀ i, w'.cell? ⟨b, i, none⟩ = w.cell? ⟨b, i, none⟩ := fun i => World.cell?_of_block (a := ⟨b, i, none⟩) hB
  exact ⟨b, off, A1, c1, A2, c2, e, Nat.lt_of_lt_of_le hlt hb.size, ⟨(hc _).trans c0, (hc _).trans c1', (hc _).trans c2'⟩, j1, j2⟩
theorem Rats.lt {w : World} {A : Option Addr} {L : List Trip} (h : Rats w A L) (h0 : 0 < L.length) : ∀ b off, A = some ⟨b, off, none⟩ → b < w.heap.size := fun b off e => by
  obtain ⟨t, ht⟩ := get_lt h0
  obtain ⟨b', off', A1, c1, A2, c2, e', hlt, -⟩ := h 0 t ht
  rw [e] at e'; cases e'; exact hlt
/-- A row of numbers cannot lie in the box of an empty tank. -/
theorem Rats.tank {w : World} {A : Option Addr} {L : List Trip} (h : Rats w A L) (hz : ∀ t ∈ L, vZ t) {g : Nat} {A0 : Option Addr} {n c : Nat} (hc : Rw.Cel w g [.int .i64 0, .slice A0 n c]) (x y : Value) : Rats ((w.setCell ⟨g, 0, none⟩ x).setCell ⟨g, 1, none⟩ y) A L := by
  intro k t ht
  obtain ⟨b, off, A1, c1, A2, c2, e, hlt, ⟨c0, c1', c2'⟩, i1, i2⟩ := h k t ht
  obtain ⟨j1, j2⟩ := (Kep.tank hc x y).two (hz t (List.mem_of_getElem? ht)) i1 i2
  obtain ⟨d0, d1⟩ := hc.two
  have hne : b = g → 2 ≤ off + k * 3 := fun hb => by
    subst hb
    rcases Nat.lt_or_ge (off + k * 3) 2 with hl | hl
    · have : off + k * 3 = 0 ∨ off + k * 3 = 1 := by omega
      rcases this with h0 | h0
      · rw [h0, d0] at c0; cases c0
      · rw [h0, d1] at c0; cases c0
    · exact hl
  have hcl : ∀ i, off + k * 3 ≤ i → ((w.setCell ⟨g, 0, none⟩ x).setCell ⟨g, 1, none⟩ y).cell? ⟨b, i, none⟩ = w.cell? ⟨b, i, none⟩ := fun i hi => by
    rw [World.cell?_setCell_other _ ⟨g, 1, none⟩ ⟨b, i, none⟩ y (fun e => by cases e; have := hne rfl; omega), World.cell?_setCell_other _ ⟨g, 0, none⟩ ⟨b, i, none⟩ x (fun e => by cases e; have := hne rfl; omega)]
  exact ⟨b, off, A1, c1, A2, c2, e, by simpa using hlt, ⟨(hcl _ (Nat.le_refl _)).trans c0, (hcl _ (by omega)).trans c1', (hcl _ (by omega)).trans c2'⟩, j1, j2⟩
theorem InT.tank {w : World} {v : Value} {cap : Int} {L : List Trip} (h : InT w v cap L) (hz : ∀ t ∈ L, vZ t) {g : Nat} {A0 : Option Addr} {n c : Nat} (hc : Rw.Cel w g [.int .i64 0, .slice A0 n c]) (x y : Value) : InT ((w.setCell ⟨g, 0, none⟩ x).setCell ⟨g, 1, none⟩ y) v cap L := by
  obtain ⟨A, c', e, hl, hr⟩ := h
  exact ⟨A, c', e, hl, Rats.tank hr hz hc x y⟩
theorem ts_vZ {Q : List Rat} (h : ∀ q ∈ Q, fitR q = true) : ∀ t ∈ ts Q, vZ t := fun t ht => Or.inl (ts_valid h t ht)
/-! ### A number that is stored in a row -/
def zR : Raw := (false, (none, 0, 0), (none, 0, 0))
theorem flat_putT : ∀ (X : List Raw) (k : Nat) (r : Raw), k < X.length → (X.set k r).flatMap cR = (((X.flatMap cR).set (k * 3) (.bool r.1)).set (k * 3 + 1) (sl r.2.1)).set (k * 3 + 2) (sl r.2.2)
  | [], k, r, h => by simp at h
  | x :: X, 0, r, _ => by simp
  | x :: X, k + 1, r, h => by
    have ih := flat_putT X k r (by simpa using h)
    rw [List.set_cons_succ, List.flatMap_cons, ih, List.flatMap_cons]
    rw [show (k + 1) * 3 + 2 = (k * 3 + 2) + 1 + 1 + 1 by omega, show (k + 1) * 3 + 1 = (k * 3 + 1) + 1 + 1 + 1 by omega, show (k + 1) * 3 = (k * 3) + 1 + 1 + 1 by omega]
    rfl
/-- The memory behind the store. -/
abbrev putT (w : World) (g k : Nat) (r : Raw) : World := ((w.setCell ⟨g, k * 3, none⟩ (.bool r.1)).setCell ⟨g, k * 3 + 1, none⟩ (sl r.2.1)).setCell ⟨g, k * 3 + 2, none⟩ (sl r.2.2)
section
variable {w : World} {B g n c : Nat} {X : List Raw}
theorem rowT_put (hr : Rw.Row cR 3 TR B w (.slice (some ⟨g, 0, none⟩) n c) X) (hn : n = X.length) (k : Nat) (r : Raw) (hk : k < X.length) : Rw.Row cR 3 TR B (putT w g k r) (.slice (some ⟨g, 0, none⟩) n c) (X.set k r) := by
  subst hn
  have h1 := own_set (w := w) (t := TR) (B := B) (s := 3) (m := X.length) (xs := X.flatMap cR) hr (k * 3) (.bool r.1)
  have h2 := own_set h1 (k * 3 + 1) (sl r.2.1)
  have h3 := own_set h2 (k * 3 + 2) (sl r.2.2)
  unfold Rw.Row
  rw [List.length_set, flat_putT X k r hk]
  exact h3
theorem rowT_cells (hr : Rw.Row cR 3 TR B w (.slice (some ⟨g, 0, none⟩) n c) X) {k : Nat} {z : Raw} (hz : X[k]? = some z) : w.cell? ⟨g, k * 3, none⟩ = some (.bool z.1) ∧ w.cell? ⟨g, k * 3 + 1, none⟩ = some (sl z.2.1) ∧ w.cell? ⟨g, k * 3 + 2, none⟩ = some (sl z.2.2) :=
  ⟨hr.cell cR_len hz (j := 0) rfl, hr.cell cR_len hz (j := 1) rfl, hr.cell cR_len hz (j := 2) rfl⟩
theorem rowT_kep (hr : Rw.Row cR 3 TR B w (.slice (some ⟨g, 0, none⟩) n c) X) {k : Nat} (hk : k < X.length) (r : Raw) : Kep w (putT w g k r) := by
  obtain ⟨z, hz⟩ := get_lt hk
  obtain ⟨c0, c1, c2⟩ := rowT_cells hr hz
  have k0 := Kep.set c0 (fun z e => by cases e) (.bool r.1)
  have c1' : (w.setCell ⟨g, k * 3, none⟩ (.bool r.1)).cell? ⟨g, k * 3 + 1, none⟩ = some (sl z.2.1) := (World.cell?_setCell_other w _ _ _ (fun e => by have h := congrArg Addr.off e; dsimp only at h; omega)).trans c1
  have k1 := Kep.set c1' (fun z e => by cases e) (sl r.2.1)
  have c2' : ((w.setCell ⟨g, k * 3, none⟩ (.bool r.1)).setCell ⟨g, k * 3 + 1, none⟩ (sl r.2.1)).cell? ⟨g, k * 3 + 2, none⟩ = some (sl z.2.2) := (World.cell?_setCell_other _ _ _ _ (fun e => by have h := congrArg Addr.off e; dsimp only at h; omega)).trans ((World.cell?_setCell_other w _ _ _ (fun e => by have h := congrArg Addr.off e; dsimp only at h; omega)).trans c2)
  exact (k0.trans k1).trans (Kep.set c2' (fun z e => by cases e) (sl r.2.2))
theorem putT_off (w : World) (g k : Nat) (r : Raw) : Rw.Off (fun y => y = g) w (putT w g k r) :=
  (((Rw.Off.refl (fun y => y = g) w).set (p := ⟨g, k * 3, none⟩) (Or.inl rfl) _).set (p := ⟨g, k * 3 + 1, none⟩) (Or.inl rfl) _).set (p := ⟨g, k * 3 + 2, none⟩) (Or.inl rfl) _
theorem rowT_frozen (hr : Rw.Row cR 3 TR B w (.slice (some ⟨g, 0, none⟩) n c) X) (hn : n = X.length) (k : Nat) : w.frozen? ⟨g, k * 3, none⟩ = false ∧ w.frozen? ⟨g, k * 3 + 1, none⟩ = false ∧ w.frozen? ⟨g, k * 3 + 2, none⟩ = false := ⟨hr.warm hn _, hr.warm hn _, hr.warm hn _⟩
end
theorem made_raws (n : Nat) : (madeCells #[.bool false, .slice none 0 0, .slice none 0 0] (n * 3)).toList = (List.replicate n zR).flatMap cR := by
  apply List.ext_getElem?
  intro j
  by_cases hj : j < n * 3
  · have hk : (List.replicate n zR)[j / 3]? = some zR := by rw [List.getElem?_replicate, if_pos (by omega)]
    have hm : j % 3 = 0 ∨ j % 3 = 1 ∨ j % 3 = 2 := by omega
    have e : j = j / 3 * 3 + j % 3 := by omega
    have hr : (madeCells #[.bool false, .slice none 0 0, .slice none 0 0] (n * 3)).toList[j]? = (cR zR)[j % 3]? := by
      unfold madeCells
      rcases hm with hm | hm | hm <;> simp [hj, hm, zR]
    rw [hr]
    rcases hm with hm | hm | hm
    · rw [e, flat_at cR_len hk (j := j % 3) (u := .bool false) (by rw [hm]; rfl), ← e, hm]; rfl
    · rw [e, flat_at cR_len hk (j := j % 3) (u := .slice none 0 0) (by rw [hm]; rfl), ← e, hm]; rfl
    · rw [e, flat_at cR_len hk (j := j % 3) (u := .slice none 0 0) (by rw [hm]; rfl), ← e, hm]; rfl
  · rw [List.getElem?_eq_none (by simp [madeCells]; omega), List.getElem?_eq_none (by rw [flat_len cR_len, List.length_replicate]; omega)]
theorem tk_make (n : Nat) (hn : n ≤ 5000) (W : World) :
    (Instr.makeSlice 30 (.int .i64 (n : Int)) (.int .i64 (n : Int))).run Tryz.prog W = .ok (.slice (some ⟨W.heap.size, 0, none⟩) n n) (W.alloc (.cells (madeCells #[.bool false, .slice none 0 0, .slice none 0 0] (n * 3)) 46)) := by
  obtain ⟨i, hi, hz, hs, hb⟩ := info_parts info_r
  have h := run_make (P := Tryz.prog) (w := W) 30 46 i _ Tryz.underlying30 hi hz .i64 .i64 (n : Int) (n : Int) (by omega) (by omega) (by rw [hb]; omega) (by omega)
  rw [hs, Int.toNat_natCast] at h
  exact h
theorem rowT_made (W : World) (n : Nat) (hn : n ≤ 5000) : Rw.Row cR 3 TR W.heap.size (W.alloc (.cells (madeCells #[.bool false, .slice none 0 0, .slice none 0 0] (n * 3)) 46)) (.slice (some ⟨W.heap.size, 0, none⟩) n n) (List.replicate n zR) := by
  have h := World.ownsRow_lit (base := W.heap.size) (e := TR) (size := 3) W (madeCells #[.bool false, .slice none 0 0, .slice none 0 0] (n * 3)) n (Nat.le_refl _) (by unfold maxLen; omega) (by rw [size_madeCells])
  unfold Rw.Row
  rw [List.length_replicate, ← made_raws]
  exact h
/-- A row that is filled from its begin. -/
theorem fill_set {R : List Raw} {n k : Nat} (r : Raw) (h : R.length = k) (hk : k < n) : (R ++ List.replicate (n - k) zR).set k r = (R ++ [r]) ++ List.replicate (n - (k + 1)) zR := by
  obtain ⟨m, rfl⟩ : ∃ m, n = k + 1 + m := ⟨n - (k + 1), by omega⟩
  rw [show k + 1 + m - k = m + 1 by omega, show k + 1 + m - (k + 1) = m by omega, List.replicate_succ, List.set_append_right _ _ (by omega), show k - R.length = 0 by omega, List.set_cons_zero, List.append_assoc]; rfl
theorem fill_len {R : List Raw} {n k : Nat} (h : R.length = k) (hk : k ≤ n) : (R ++ List.replicate (n - k) zR).length = n := by
  rw [List.length_append, List.length_replicate, h]; omega
theorem fill_rats {w : World} {B g n k : Nat} {R : List Raw} {L : List Trip} (hr : Rw.Row cR 3 TR B w (.slice (some ⟨g, 0, none⟩) n n) (R ++ List.replicate (n - k) zR)) (hi : Ins w R L) (hk : R.length = k) (hn : k = n) : Rats w (some ⟨g, 0, none⟩) L ∧ n = L.length := by
  subst hn
  rw [Nat.sub_self, List.replicate_zero, List.append_nil] at hr
  exact row_rats hr hi hk.symm
end Go.Proofs.YtagjimdplmimoaaGreat.Tank
/- What a draw keeps, for the stage's theorems (pure). -/
namespace Go.Proofs.YtagjimdplmimoaaGreat.Tank
set_option linter.unusedVariables false

theorem dr_level {cap : Int} {L : List Trip} {mass : Int} (h : drE cap L mass = 0) (hm : ¬ mass = 0) : sumV L ≠ 0 := fun e => by
  have hd := drE_of h
  have h1 := hd.mass_le
  rw [e, qI_val] at h1
  have h2 : (mass : Rat) ≤ ((0 : Int) : Rat) := h1
  have h3 := Rat.intCast_le_intCast.mp h2
  have := hd.m0
  omega
theorem qI_zero0 : qI 0 = 0 := mkV_zero
/-- What is left and what was taken of a part. -/
theorem dr_part {cap : Int} {L : List Trip} {mass : Int} (h : drE cap L mass = 0) {k : Nat} {p : Rat} (hp : (qs L)[k]? = some p) : ∃ x y, (drX L mass)[k]? = some x ∧ (drY L mass)[k]? = some y ∧ y + x = p ∧ x * sumV L = p * qI mass := by
  unfold drX drY
  rw [List.getElem?_map, List.getElem?_map, hp]
  refine ⟨(if mass = 0 then 0 else tkX p (qI mass) (sumV L)), (if mass = 0 then p else tkY p (qI mass) (sumV L)), rfl, rfl, ?_, ?_⟩
  · by_cases hm : mass = 0
    · rw [if_pos hm, if_pos hm, Rat.add_zero]
    · rw [if_neg hm, if_neg hm]; exact tk_sum _ _ _
  · by_cases hm : mass = 0
    · rw [if_pos hm, hm, qI_zero0, Rat.zero_mul, Rat.mul_zero]
    · rw [if_neg hm]; exact tk_prop (dr_level h hm)
theorem sumR_zero : ∀ l : List Rat, sumR (l.map fun _ => (0 : Rat)) = 0
  | [] => rfl
  | a :: l => by rw [List.map_cons, sumR, sumR_zero l, Rat.zero_add]
/-- What was taken adds up to the mass; what is left to the rest. -/
theorem dr_total {cap : Int} {L : List Trip} {mass : Int} (h : drE cap L mass = 0) : sumR (drX L mass) = qI mass := by
  have hd := drE_of h
  unfold drX
  by_cases hm : mass = 0
  · simp only [if_pos hm]
    rw [hm, qI_zero0]; exact sumR_zero _
  · simp only [if_neg hm]
    exact sumR_X_all (sumV_val hd.t.sum).symm (dr_level h hm)
theorem dr_rest {cap : Int} {L : List Trip} {mass : Int} (h : drE cap L mass = 0) : sumR (drY L mass) = sumV L + -qI mass := by
  have hd := drE_of h
  unfold drY
  by_cases hm : mass = 0
  · simp only [if_pos hm]
    rw [hm, qI_zero0, List.map_id', sumV_val hd.t.sum]
    have : -(0 : Rat) = 0 := by decide +kernel
    rw [this, Rat.add_zero]
  · simp only [if_neg hm]
    exact sumR_Y_all (sumV_val hd.t.sum).symm (dr_level h hm)
/-- The error of a sum of few valid numbers. -/
theorem sumE_few {Q : List Rat} (hl : Q.length ≤ 4096) (h : ∀ q ∈ Q, fitR q = true) : sumE (ts Q) = 0 ∨ sumE (ts Q) = 2 := by
  unfold sumE
  rw [if_neg (by rw [ts_len]; omega), if_pos (List.all_eq_true.mpr fun t ht => by
    obtain ⟨q, hq, rfl⟩ := List.mem_map.mp ht
    exact vT_tri (h q hq))]
  split
  · exact Or.inl rfl
  · exact Or.inr rfl
theorem sumV_ts {Q : List Rat} (hf : ∀ q ∈ Q, fitR q = true) (h : sumE (ts Q) = 0) : sumV (ts Q) = sumR Q := by rw [sumV_val h, qs_ts hf]
end Go.Proofs.YtagjimdplmimoaaGreat.Tank
