/- The walk of ShareOrder. Written by gen12/order.py. -/
import Derived.Test.YtdolhanniiejfaaShareO
namespace Go.Proofs.Ytdolhanniiejfaa.Share
open Go.ChangeShapes Go.WideShapes Go.RowKit Go.Lib Go.Proofs.Ytdolhanniiejfaa.Mem
set_option linter.unusedVariables false
set_option maxRecDepth 100000

/-- What the loops ask of two parts. -/
theorem order_ok {t : Int} {ws : List Int} (h : errS t ws = 0) {i k : Nat} {x y p q : Int} (hx : ws[i]? = some x) (hy : ws[k]? = some y) (hp : (splL t ws)[i]? = some p) (hq : (splL t ws)[k]? = some q) :
    (y < x → ¬ p < q) ∧ (x = y → i < k → ¬ p < q ∧ ¬ q + 1 < p) := by
  have ok := Ok.of h
  have e : splL t ws = lst (fun i => (part t.toNat (wf ws) ws.length i : Int)) ws.length := by unfold splL; rw [if_pos h]; rfl
  have hi := lt_of_get hx
  have hk := lt_of_get hy
  rw [e, lst_at _ hi] at hp
  rw [e, lst_at _ hk] at hq
  have hpi := Option.some.inj hp
  have hqi := Option.some.inj hq
  have wx := wf_at hx (ok.all x (List.mem_of_getElem? hx)).1
  have wy := wf_at hy (ok.all y (List.mem_of_getElem? hy)).1
  subst hpi; subst hqi
  rcases Nat.eq_zero_or_pos (Share.tw (wf ws) ws.length) with hz | hz
  · have e1 : ∀ j, part t.toNat (wf ws) ws.length j = 0 := fun j => by unfold part; rw [if_pos hz]
    simp only [e1]
    refine ⟨fun _ => by omega, fun _ _ => by omega⟩
  · refine ⟨fun hlt => ?_, fun he hik => ?_⟩
    · have := part_order (T := t.toNat) hz hi hk (by omega)
      omega
    · have := part_equal (T := t.toNat) hz hi hk hik (by omega)
      omega

set_option maxHeartbeats 6400000 in
theorem walk_ShareOrder (w : World) (t : Int) (B : Option Addr) (m d : Nat) (ws : List Int) (k : InInts .i64 w B m d ws) :
    Calls Try.prog 7 #[.int .i64 t, .slice B m d] w fun e w' => e = .returned (.bool true) ∧ Below w.heap.size w w' := by
  obtain ⟨kcl, km, kl⟩ := in_cl k
  clear k
  rcases Nat.lt_or_ge 40 m with hbig | hle
  · have i1 : (40 : Int) < (m : Int) := by omega
    have i2 : 40 < m := hbig
    clear kcl km hbig
    go_enter Try.func7, Try.ntmps7
    go_wp2_with fail
    refine (awake_true _).mono ?_
    rintro e w1 ⟨rfl, hb⟩
    have HB := Lib.hid hb
    clear hb
    go_wp2_with fail
    go_ret
    exact ⟨rfl, HB.out⟩
  · have HA := Lib.hid kcl
    have HM := Lib.hid km
    have i1 : ¬ (40 : Int) < (m : Int) := by omega
    have i2 : ¬ 40 < m := by omega
    have HSP := Lib.hid (split_n t ws m km B d w kcl kl)
    clear kcl km
    by_cases hE : errS t ws = 0
    · rw [hE] at HSP
      have HE := Lib.hid hE
      have hz0 : ((0 : Nat) : Int) = 0 := rfl
      obtain ⟨L, hL⟩ : ∃ L, L = splL t ws := ⟨_, rfl⟩
      have HLL := Lib.hid (show L.length = m by rw [hL, splL_len hE, ← HM.out])
      have HZ := Lib.hid (show ∀ (i : Nat) (z : Int), L[i]? = some z → 0 ≤ z ∧ z ≤ 1125899906842624 from fun i z hz => splL_le hE (i := i) (z := z) (by rw [← hL]; exact hz))
      have HOR := Lib.hid (show ∀ (i k : Nat) (x y p q : Int), ws[i]? = some x → ws[k]? = some y → L[i]? = some p → L[k]? = some q → (y < x → ¬ p < q) ∧ (x = y → i < k → ¬ p < q ∧ ¬ q + 1 < p) from fun i k x y p q h1 h2 h3 h4 => order_ok hE h1 h2 (by rw [← hL]; exact h3) (by rw [← hL]; exact h4))
      rw [← hL] at HSP
      have hne : ((m : Int) != (m : Int)) = false := by simp
      have hne2 : (m != m) = false := by simp
      clear hE hL
      go_enter Try.func7, Try.ntmps7
      go_wp2_with fail
      refine HSP.out.mono ?_
      intro e w3 hr
      obtain ⟨A3, n3, c3, rfl, hn3, hl3, -, hc3, hb3⟩ := hr.open_
      obtain rfl : m = n3 := HLL.out.symm.trans hn3
      have HC3 := Lib.hid hc3
      have HA3 := Lib.hid (HA.out.on hb3)
      have HB3 := Lib.hid hb3
      clear hr hn3 hl3 hc3 hb3
      rw [hz0]
      clear hz0
      go_wp2_with fail
      go_loopw [7, 8] (fun x _ wr => ∃ i : Nat, x = .int .i64 (i : Int) ∧ i ≤ m ∧ Below w3.heap.size w3 wr) (fun x _ _ => m - (RowKit.intOf x).toNat)
      case atStart => exact ⟨0, rfl, Nat.zero_le _, Below.refl _ _⟩
      case round =>
        obtain ⟨i, rfl, hi, hbel⟩ := hrel
        have HB4 := Lib.hid hbel
        clear hbel
        rcases Nat.lt_or_ge i m with hlt | hge
        · have HLT := Lib.hid hlt
          have j1 : (i : Int) < (m : Int) := by omega
          have j2 : (0 : Int) ≤ (i : Int) := by omega
          have j3 : i < m := hlt
          have hk1 : IntKind.i64.wrap ((i : Int) + 1) = ((i + 1 : Nat) : Int) := wrap_id (by omega)
          clear hi hlt
          go_wp2_with fail
          go_loopw [8] (fun x wr => ∃ k : Nat, x = .int .i64 (k : Int) ∧ k ≤ m ∧ Below w3.heap.size w3 wr) (fun x _ => m - (RowKit.intOf x).toNat)
          case atStart => exact ⟨0, rfl, Nat.zero_le _, HB4.out⟩
          case round =>
            obtain ⟨k, rfl, hk, hbel⟩ := hrel
            have HB5 := Lib.hid hbel
            clear hbel
            rcases Nat.lt_or_ge k m with hlt | hge
            · have HLK := Lib.hid hlt
              have k1 : (k : Int) < (m : Int) := by omega
              have k2 : (0 : Int) ≤ (k : Int) := by omega
              have k3 : k < m := hlt
              have hk2 : IntKind.i64.wrap ((k : Int) + 1) = ((k + 1 : Nat) : Int) := wrap_id (by omega)
              obtain ⟨x, hx⟩ := get_lt (L := ws) (k := i) (by rw [HM.out]; exact HLT.out)
              obtain ⟨y, hy⟩ := get_lt (L := ws) (k := k) (by rw [HM.out]; exact HLK.out)
              obtain ⟨p, hp⟩ := get_lt (L := L) (k := i) (by rw [HLL.out]; exact HLT.out)
              obtain ⟨q, hq⟩ := get_lt (L := L) (k := k) (by rw [HLL.out]; exact HLK.out)
              obtain ⟨b1, o1, e1, g1, c1⟩ := (HA3.out.on HB5.out) i x hx
              obtain ⟨b1', o1', e1', g2, c2⟩ := (HA3.out.on HB5.out) k y hy
              obtain ⟨b2, o2, e2, g3, c4⟩ := (HC3.out.on HB5.out) i p hp
              obtain ⟨b2', o2', e2', g4, c5⟩ := (HC3.out.on HB5.out) k q hq
              have HORD := Lib.hid (HOR.out i k x y p q hx hy hp hq)
              have hq1 := HZ.out k q hq
              obtain ⟨q1, hqq⟩ : ∃ q1, q1 = q + 1 := ⟨_, rfl⟩
              have hwq : IntKind.i64.wrap (q + 1) = q1 := by rw [wrap_id (by omega)]; omega
              have HQQ := Lib.hid hqq
              rw [e1] at e1'
              cases e1'
              rw [e2] at e2'
              cases e2'
              have HE1 := Lib.hid e1
              have HE2 := Lib.hid e2
              obtain rfl := e1
              obtain rfl := e2
              clear hx hy hp hq hqq hq1 hk hlt g1 g2 g3 g4
              rcases Int.lt_trichotomy x y with hc | hc | hc
              · have t3 : ¬ x = y := by omega
                have bba : decide (y < x) = false := decide_eq_false (by first | omega | assumption)
                have bbb : (x == y) = false := by simp; omega
                clear hc
                go_wp2_with fail
                go_quiet (fail)
                go_wp2_with fail
                go_roundw
                case rel => exact ⟨k + 1, rfl, HLK.out, below_drewN HB5.out _⟩
                case measure =>
                  have := HLK.out
                  simp [RowKit.intOf]; omega
              · subst hc
                rcases Nat.lt_or_ge i k with hc | hc
                · have t4 := (HORD.out.2 rfl hc).1
                  have t5 : ¬ q1 < p := by have h5 := (HORD.out.2 rfl hc).2; have h6 := HQQ.out; omega
                  have bba : decide (x < x) = false := decide_eq_false (by first | omega | assumption)
                  have bbb : (x == x) = true := by simp
                  have bbc : decide (p < q) = false := decide_eq_false (by first | omega | assumption)
                  have bbd : decide (q1 < p) = false := decide_eq_false (by first | omega | assumption)
                  have bbe : decide ((i : Int) < (k : Int)) = true := decide_eq_true (by first | omega | assumption)
                  have bbf : decide (i < k) = true := decide_eq_true (by first | omega | assumption)
                  clear hc t4 t5
                  go_wp2_with fail
                  go_quiet (fail)
                  go_wp2_with fail
                  go_roundw
                  case rel => exact ⟨k + 1, rfl, HLK.out, below_drewN HB5.out _⟩
                  case measure =>
                    have := HLK.out
                    simp [RowKit.intOf]; omega
                · have t6 : ¬ i < k := by omega
                  have bba : decide (x < x) = false := decide_eq_false (by first | omega | assumption)
                  have bbb : (x == x) = true := by simp
                  have bbc : decide ((i : Int) < (k : Int)) = false := decide_eq_false (by first | omega | assumption)
                  have bbd : decide (i < k) = false := decide_eq_false (by first | omega | assumption)
                  clear hc
                  go_wp2_with fail
                  go_quiet (fail)
                  go_wp2_with fail
                  go_roundw
                  case rel => exact ⟨k + 1, rfl, HLK.out, below_drewN HB5.out _⟩
                  case measure =>
                    have := HLK.out
                    simp [RowKit.intOf]; omega
              · have t4 := HORD.out.1 hc
                have t3 : ¬ x = y := by omega
                have bba : decide (y < x) = true := decide_eq_true (by first | omega | assumption)
                have bbb : decide (p < q) = false := decide_eq_false (by first | omega | assumption)
                have bbc : (x == y) = false := by simp; omega
                clear hc t4
                go_wp2_with fail
                go_quiet (fail)
                go_wp2_with fail
                go_roundw
                case rel => exact ⟨k + 1, rfl, HLK.out, below_drewN HB5.out _⟩
                case measure =>
                  have := HLK.out
                  simp [RowKit.intOf]; omega
            · obtain rfl : m = k := by omega
              clear hk hge
              go_wp2_with fail
              go_roundw
              case rel => exact ⟨i + 1, rfl, HLT.out, HB5.out⟩
              case measure =>
                have := HLT.out
                simp [RowKit.intOf]; omega
        · obtain rfl : m = i := by omega
          clear hi hge
          go_wp2_with fail
          refine (awake_true _).mono ?_
          rintro e w8 ⟨rfl, hb8⟩
          have HB8 := Lib.hid hb8
          clear hb8
          go_wp2_with fail
          go_ret
          exact ⟨rfl, bstep HB3.out (bstep HB4.out HB8.out)⟩
    · obtain ⟨E, hEE⟩ : ∃ E, E = errS t ws := ⟨_, rfl⟩
      have hE1 : ((E : Int) != 0) = true := by simp; omega
      have hE3 : ¬ (E : Int) = 0 := by omega
      rw [← hEE] at HSP
      clear hE hEE
      go_enter Try.func7, Try.ntmps7
      go_wp2_with fail
      refine HSP.out.mono ?_
      intro e w3 hr
      obtain ⟨A3, n3, c3, rfl, hn3, hl3, -, -, hb3⟩ := hr.open_
      have HB3 := Lib.hid hb3
      clear hr hn3 hl3 hb3
      go_wp2_with fail
      refine (awake_true _).mono ?_
      rintro e w8 ⟨rfl, hb8⟩
      have HB8 := Lib.hid hb8
      clear hb8
      go_wp2_with fail
      go_ret
      exact ⟨rfl, bstep HB3.out HB8.out⟩
#print axioms walk_ShareOrder
end Go.Proofs.Ytdolhanniiejfaa.Share
