/- Common, list, in, Same of the reference. -/
import Derived.Test.YtccbnobpighckaaRectE
namespace Go.Proofs.Ytccbnobpighckaa.Rect
open Go.ChangeShapes Go.WideShapes Go.RowKit Go.Lib Go.Proofs.Ytccbnobpighckaa.Rw
set_option linter.unusedVariables false
set_option maxRecDepth 100000

/-- A rectangle and whether there is one. -/
def ComP (a b : Rc) (w : World) (e : Ending) (w' : World) : Prop := e = .returned (.tuple #[agQ (comV a b), .bool (comB a b)]) ∧ Below w.heap.size w w'
set_option maxHeartbeats 3200000 in
theorem rr_Common (a b : Rc) (w : World) : Calls Try.prog 14 #[agQ a, agQ b] w (ComP a b w) := by
  obtain ⟨c, hc⟩ : ∃ c, comR a b = c := ⟨_, rfl⟩
  have hV : comV a b = if ptB c then c else (0, 0, 0, 0) := by unfold comV comB; rw [hc]
  have hB : comB a b = (ptB a && (ptB b && ptB c)) := by rw [com_all, hc]
  have hB2 : comB a b = ptB c := by unfold comB; rw [hc]
  obtain ⟨V, hVV⟩ : ∃ V, comV a b = V := ⟨_, rfl⟩
  obtain ⟨D, hD⟩ : ∃ D, comB a b = D := ⟨_, rfl⟩
  unfold ComP
  rw [hVV, hD]
  rw [hVV] at hV
  rw [hD] at hB hB2
  have m0 : (if a.1 < b.1 then b.1 else a.1) = c.1 := by rw [max_if, ← hc]; rfl
  have m1 : (if b.2.1 < a.2.1 then b.2.1 else a.2.1) = c.2.1 := by rw [min_if, ← hc]; rfl
  have m2 : (if a.2.2.1 < b.2.2.1 then b.2.2.1 else a.2.2.1) = c.2.2.1 := by rw [max_if, ← hc]; rfl
  have m3 : (if b.2.2.2 < a.2.2.2 then b.2.2.2 else a.2.2.2) = c.2.2.2 := by rw [min_if, ← hc]; rfl
  have n0 : max a.1 b.1 = c.1 := by rw [← hc]; rfl
  have n1 : min a.2.1 b.2.1 = c.2.1 := by rw [← hc]; rfl
  have n2 : max a.2.2.1 b.2.2.1 = c.2.2.1 := by rw [← hc]; rfl
  have n3 : min a.2.2.2 b.2.2.2 = c.2.2.2 := by rw [← hc]; rfl
  have HPa := Lib.hid fun W => rr_points a W
  have HPb := Lib.hid fun W => rr_points b W
  have HPc := Lib.hid fun W => rr_points c W
  obtain ⟨p, hp⟩ : ∃ p, ptB a = p := ⟨_, rfl⟩
  obtain ⟨q, hq⟩ : ∃ q, ptB b = q := ⟨_, rfl⟩
  obtain ⟨s, hs⟩ : ∃ s, ptB c = s := ⟨_, rfl⟩
  rw [hp] at HPa hB
  rw [hq] at HPb hB
  rw [hs] at HPc hB hB2 hV
  clear hc hVV hD hp hq hs
  have HB := Lib.hid hB
  have HB2 := Lib.hid hB2
  have HV := Lib.hid hV
  clear hB hB2 hV
  go_enter Try.func14, Try.ntmps14
  go_upto_region 1 with fail
  obtain ⟨w0, hw0⟩ : ∃ W, ((w.alloc (.cells #[.int .i64 a.1, .int .i64 a.2.1, .int .i64 a.2.2.1, .int .i64 a.2.2.2] 23)).alloc (.cells #[.int .i64 b.1, .int .i64 b.2.1, .int .i64 b.2.2.1, .int .i64 b.2.2.2] 23)).alloc (.cells #[.int .i64 0, .int .i64 0, .int .i64 0, .int .i64 0] 23) = W := ⟨_, rfl⟩
  have C0 : Hid (Cel w0 w.heap.size (cQ a)) := hw0 ▸ ((Cel.new w (cQ a) _).alloc _).alloc _
  have D0 : Hid (Cel w0 (w.heap.size + 1) (cQ b)) := hw0 ▸ (Cel.new_at _ (cQ b) _ (by simp)).alloc _
  have R0 : Hid (Cel w0 (w.heap.size + 1 + 1) (cQ (0, 0, 0, 0))) := hw0 ▸ Cel.new_at _ (cQ (0, 0, 0, 0)) _ (by simp)
  have B0 : Hid (Below w.heap.size w w0) := hw0 ▸ bstep (bstep (below_alloc _ _) (below_alloc _ _)) (below_alloc _ _)
  rw [hw0]
  clear hw0
  obtain ⟨x0, x1, x2, x3⟩ := cel4 C0.out
  obtain ⟨y0, y1, y2, y3⟩ := cel4 D0.out
  go_upto_region 2 with fail
  obtain ⟨w1, hw1⟩ : ∃ W, w0.alloc (.cells #[.int .i64 c.1, .int .i64 c.2.1, .int .i64 c.2.2.1, .int .i64 c.2.2.2] 23) = W := ⟨_, rfl⟩
  have E1 : Hid (Cel w1 w0.heap.size (cQ c)) := hw1 ▸ Cel.new w0 (cQ c) _
  have hb1 : Below w0.heap.size w0 w1 := hw1 ▸ below_alloc _ _
  rw [hw1]
  clear hw1 x0 x1 x2 x3 y0 y1 y2 y3 m0 m1 m2 m3 n0 n1 n2 n3
  have B1 := Lib.hid (bstep B0.out hb1)
  have C1 := Lib.hid (C0.out.on hb1)
  have D1 := Lib.hid (D0.out.on hb1)
  have R1 := Lib.hid (R0.out.on hb1)
  clear hb1 C0 D0 R0
  obtain ⟨x0, x1, x2, x3⟩ := cel4 C1.out
  go_wp2_with fail
  refine (HPa.out w1).mono ?_
  rintro e w2 ⟨rfl, hb2⟩
  have B2 := Lib.hid (bstep B1.out hb2)
  have D2 := Lib.hid (D1.out.on hb2)
  have E2 := Lib.hid (E1.out.on hb2)
  have R2 := Lib.hid (R1.out.on hb2)
  clear hb2 x0 x1 x2 x3
  cases p with
  | false =>
    obtain rfl : D = false := HB.out
    obtain rfl : false = s := HB2.out
    obtain rfl : V = (0, 0, 0, 0) := HV.out
    obtain ⟨u0, u1, u2, u3⟩ := cel4 R2.out
    obtain ⟨v0, v1, v2, v3⟩ := warm4 R2.out
    go_wp2_with fail
    exact bodyPost_ret (res_rect2 Try.results14 rfl (cel_put4 R2.out _ _ _ _)) rfl ⟨rfl, below_put4 B2.out (by omega) _ _ _ _⟩
  | true =>
    obtain ⟨y0, y1, y2, y3⟩ := cel4 D2.out
    go_wp2_with fail
    refine (HPb.out w2).mono ?_
    rintro e w3 ⟨rfl, hb3⟩
    have B3 := Lib.hid (bstep B2.out hb3)
    have E3 := Lib.hid (E2.out.on hb3)
    have R3 := Lib.hid (R2.out.on hb3)
    clear hb3 y0 y1 y2 y3
    cases q with
    | false =>
      obtain rfl : D = false := HB.out
      obtain rfl : false = s := HB2.out
      obtain rfl : V = (0, 0, 0, 0) := HV.out
      obtain ⟨u0, u1, u2, u3⟩ := cel4 R3.out
      obtain ⟨v0, v1, v2, v3⟩ := warm4 R3.out
      go_wp2_with fail
      exact bodyPost_ret (res_rect2 Try.results14 rfl (cel_put4 R3.out _ _ _ _)) rfl ⟨rfl, below_put4 B3.out (by omega) _ _ _ _⟩
    | true =>
      obtain ⟨y0, y1, y2, y3⟩ := cel4 E3.out
      go_wp2_with fail
      refine (HPc.out w3).mono ?_
      rintro e w4 ⟨rfl, hb4⟩
      have B4 := Lib.hid (bstep B3.out hb4)
      have E4 := Lib.hid (E3.out.on hb4)
      have R4 := Lib.hid (R3.out.on hb4)
      clear hb4 y0 y1 y2 y3
      obtain ⟨u0, u1, u2, u3⟩ := cel4 R4.out
      obtain ⟨v0, v1, v2, v3⟩ := warm4 R4.out
      obtain ⟨y0, y1, y2, y3⟩ := cel4 E4.out
      cases s with
      | false =>
        obtain rfl : D = false := HB.out
        obtain rfl : V = (0, 0, 0, 0) := HV.out
        go_wp2_with fail
        exact bodyPost_ret (res_rect2 Try.results14 rfl (cel_put4 R4.out _ _ _ _)) rfl ⟨rfl, below_put4 B4.out (by omega) _ _ _ _⟩
      | true =>
        obtain rfl : D = true := HB.out
        obtain rfl : V = c := HV.out
        go_wp2_with fail
        exact bodyPost_ret (res_rect2 (r := V) Try.results14 rfl (cel_put4 R4.out _ _ _ _)) rfl ⟨rfl, below_put4 B4.out (by omega) _ _ _ _⟩

set_option maxHeartbeats 800000 in
theorem rr_list (L : List Rc) (A : Option Addr) (c : Nat) (w : World) (ha : Rcs w A L) (hm : L.length ≤ 9223372036854775807) :
    Calls Try.prog 44 #[.slice A L.length c] w fun e w' => e = .returned (.int .i64 (lsE L)) ∧ Below w.heap.size w w' := by
  have HA := Lib.hid ha
  clear ha
  by_cases hf : 64 < L.length
  · have hf' : (64 : Int) < (L.length : Int) := by omega
    have HF := Lib.hid (lsE_full hf)
    clear hf
    go_enter Try.func44, Try.ntmps44
    go_wp2_with fail
    go_ret
    exact ⟨ret_int HF.out.symm, Below.refl _ _⟩
  have hf' : decide ((64 : Int) < (L.length : Int)) = false := decide_eq_false (by omega)
  have HF := Lib.hid hf
  clear hf
  go_enter Try.func44, Try.ntmps44
  go_wp2_with fail
  go_loopw [3] (fun i wr => ∃ k : Nat, k ≤ L.length ∧ i = .int .i64 k ∧ (∀ (j : Nat) (s : Rc), j < k → L[j]? = some s → ckB s = true) ∧ Below w.heap.size w wr) (fun i _ => L.length - (RowKit.intOf i).toNat)
  case atStart => exact ⟨0, Nat.zero_le _, rfl, fun j t h => absurd h (by omega), Below.refl _ _⟩
  case round =>
    obtain ⟨k, hk, rfl, hv, hbel⟩ := hrel
    have HV := Lib.hid hv
    have HB := Lib.hid hbel
    clear hv hbel
    rcases Nat.lt_or_ge k L.length with hlt | hge
    · obtain ⟨s, hs⟩ := get_lt hlt
      obtain ⟨b, off, rfl, hb, h0, h1, h2, h3⟩ := rd_at (HA.out.on HB.out) hs
      have HS := Lib.hid hs
      have HCk := Lib.hid fun W => rr_Check s W
      have i1 : (k : Int) < (L.length : Int) := by omega
      have i2 : (0 : Int) ≤ (k : Int) := by omega
      obtain ⟨E, hE⟩ : ∃ E, ckE s = E := ⟨_, rfl⟩
      rw [hE] at HCk
      clear hs
      go_wp2_with fail
      refine (HCk.out wr).mono ?_
      rintro e w1 ⟨rfl, hb1⟩
      have HB1 := Lib.hid (HB.out.trans (hb1.mono HB.out.size))
      clear hb1 h0 h1 h2 h3
      by_cases hz : E = 0
      · subst hz
        have HG := Lib.hid (ckE_iff.mp hE)
        clear hE
        go_wp2_with fail
        go_roundw
        case rel =>
          refine ⟨k + 1, by omega, by go_num, ?_, HB1.out⟩
          intro j u hj hu
          rcases Nat.lt_or_eq_of_le (Nat.le_of_lt_succ hj) with h | h
          · exact HV.out j u h hu
          · subst h
            have e := HS.out
            rw [hu] at e; cases e; exact HG.out
        case measure => simp [RowKit.intOf]; omega
      · obtain ⟨z1, z2⟩ := ne_tests hz
        have hb0 : ckB s = false := by
          cases hc : ckB s with
          | false => rfl
          | true => exact absurd (hE.symm.trans (ckE_iff.mpr hc)) hz
        have HE : Hid (lsE L = E) := by
          rw [lsE_bad HF.out HS.out hb0, ← hE]
          unfold ckE; rw [hb0]; rfl
        clear hE hz hb0
        go_wp2_with fail
        go_ret
        exact ⟨ret_int HE.out.symm, HB1.out⟩
    · obtain rfl : k = L.length := by omega
      have HG := Lib.hid (lsE_ok HF.out fun j s hs => HV.out j s (glt hs) hs)
      go_wp2_with fail
      go_ret
      exact ⟨ret_int HG.out.symm, HB.out⟩

set_option maxHeartbeats 1600000 in
theorem rr_in (L : List Rc) (A : Option Addr) (c n : Nat) (hn : n = L.length) (x y : Int) (w : World) (ha : Rcs w A L) (hm : n ≤ 9223372036854775807) :
    Calls Try.prog 60 #[.slice A n c, .int .i64 x, .int .i64 y] w fun e w' => e = .returned (.bool (inL L x y)) ∧ Below w.heap.size w w' := by
  have HA := Lib.hid ha
  have HN := Lib.hid hn
  clear ha hn
  go_enter Try.func60, Try.ntmps60
  go_wp2_with fail
  go_loopw [7] (fun i wr => ∃ k : Nat, k ≤ n ∧ i = .int .i64 k ∧ (∀ (j : Nat) (s : Rc), j < k → L[j]? = some s → inR s x y = false) ∧ w = wr) (fun i _ => n - (RowKit.intOf i).toNat)
  case atStart => exact ⟨0, Nat.zero_le _, rfl, fun j t h => absurd h (by omega), rfl⟩
  case round =>
    obtain ⟨k, hk, rfl, hv, rfl⟩ := hrel
    have HV := Lib.hid hv
    clear hv
    rcases Nat.lt_or_ge k n with hlt | hge
    · obtain ⟨s, hs⟩ := get_lt (L := L) (k := k) (by have := HN.out; omega)
      obtain ⟨b, off, rfl, hb, e0, e1, e2, e3⟩ := rd_at HA.out hs
      have HS := Lib.hid hs
      have i1 : (k : Int) < (n : Int) := by omega
      have i2 : (0 : Int) ≤ (k : Int) := by omega
      have HNo : inR s x y = false → Hid (∀ (j : Nat) (u : Rc), j < k + 1 → L[j]? = some u → inR u x y = false) := fun h j u hj hu => by
        rcases Nat.lt_or_eq_of_le (Nat.le_of_lt_succ hj) with h1 | h1
        · exact HV.out j u h1 hu
        · subst h1
          have e := HS.out
          rw [hu] at e; cases e; exact h
      have hiff := inR_iff (r := s) (x := x) (y := y)
      clear hs
      by_cases h0 : s.1 ≤ x
      rotate_left
      · have d0 : decide (s.1 ≤ x) = false := decide_eq_false h0
        have HN2 := HNo (by
          cases hc : inR s x y with
          | false => rfl
          | true => have := hiff.mp hc; omega)
        clear hiff HNo h0
        go_wp2_with fail
        go_roundw
        case rel => exact ⟨k + 1, by omega, by go_num, HN2.out, trivial⟩
        case measure => simp [RowKit.intOf]; omega
      have d0 : decide (s.1 ≤ x) = true := decide_eq_true h0
      by_cases h1 : x < s.2.1
      rotate_left
      · have d1 : decide (x < s.2.1) = false := decide_eq_false h1
        have HN2 := HNo (by
          cases hc : inR s x y with
          | false => rfl
          | true => have := hiff.mp hc; omega)
        clear hiff HNo h0 h1
        go_wp2_with fail
        go_roundw
        case rel => exact ⟨k + 1, by omega, by go_num, HN2.out, trivial⟩
        case measure => simp [RowKit.intOf]; omega
      have d1 : decide (x < s.2.1) = true := decide_eq_true h1
      by_cases h2 : s.2.2.1 ≤ y
      rotate_left
      · have d2 : decide (s.2.2.1 ≤ y) = false := decide_eq_false h2
        have HN2 := HNo (by
          cases hc : inR s x y with
          | false => rfl
          | true => have := hiff.mp hc; omega)
        clear hiff HNo h0 h1 h2
        go_wp2_with fail
        go_roundw
        case rel => exact ⟨k + 1, by omega, by go_num, HN2.out, trivial⟩
        case measure => simp [RowKit.intOf]; omega
      have d2 : decide (s.2.2.1 ≤ y) = true := decide_eq_true h2
      by_cases h3 : y < s.2.2.2
      rotate_left
      · have d3 : decide (y < s.2.2.2) = false := decide_eq_false h3
        have HN2 := HNo (by
          cases hc : inR s x y with
          | false => rfl
          | true => have := hiff.mp hc; omega)
        clear hiff HNo h0 h1 h2 h3
        go_wp2_with fail
        go_roundw
        case rel => exact ⟨k + 1, by omega, by go_num, HN2.out, trivial⟩
        case measure => simp [RowKit.intOf]; omega
      have d3 : decide (y < s.2.2.2) = true := decide_eq_true h3
      have HE : Hid (inL L x y = true) := inL_iff.mpr ⟨s, List.mem_of_getElem? HS.out, hiff.mpr ⟨⟨h0, h1⟩, h2, h3⟩⟩
      clear hiff HNo h0 h1 h2 h3
      go_wp2_with fail
      go_ret
      exact ⟨ret_bool HE.out.symm, Below.refl _ _⟩
    · obtain rfl : k = n := by omega
      have HE : Hid (inL L x y = false) := by
        cases hc : inL L x y with
        | false => exact rfl
        | true =>
          obtain ⟨r, hr, hi⟩ := inL_iff.mp hc
          obtain ⟨j, hj⟩ := List.mem_iff_getElem?.mp hr
          rw [HV.out j r (by have := glt hj; have := HN.out; omega) hj] at hi
          cases hi
      go_wp2_with fail
      go_ret
      exact ⟨ret_bool HE.out.symm, Below.refl _ _⟩
#print axioms rr_Common
#print axioms rr_list
#print axioms rr_in
end Go.Proofs.Ytccbnobpighckaa.Rect
