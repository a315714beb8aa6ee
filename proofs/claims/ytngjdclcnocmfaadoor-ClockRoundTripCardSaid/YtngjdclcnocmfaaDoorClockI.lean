/- Contract of Parts of the reference. -/
import Derived.Test.YtngjdclcnocmfaaDoorClockH
namespace Go.Proofs.YtngjdclcnocmfaaDoor.Clock
open Go.ChangeShapes Go.WideShapes Go.RowKit Go.Lib
set_option linter.unusedVariables false
set_option maxRecDepth 100000

theorem prtN_of {a b : Int} (h : a < b) (n : Int) (hn : n = (b - 1) / 28800 - a / 28800 + 1) : ((prtN a b : Nat) : Int) = max n 0 := by unfold prtN; rw [if_pos h]; omega

set_option maxHeartbeats 1600000 in
theorem ref_Parts (a b : Int) (w : World) : Calls Tryd.prog 25 #[.agg #[.int .i64 a, .int .i64 b]] w (PrtRes a b w) := by
  cases hw : wit a b with
  | false =>
    have HW := Lib.hid hw
    clear hw
    go_enter Tryd.func25, Tryd.ntmps25
    go_wp2_with fail
    refine (ref_within a b _).mono ?_
    rintro e w1 ⟨rfl, hb⟩
    rw [HW.out]
    have HB := Lib.hid (bstep (below_alloc w _) hb)
    clear hb
    go_wp2_with fail
    go_ret2
    exact PrtRes.err (prtE_range HW.out) (by decide) HB.out
  | true =>
    have HW := Lib.hid hw
    obtain ⟨g1, g2, g3⟩ := wit_iff.mp hw
    clear hw
    obtain ⟨i0, hi, hz0, hz1, hz2⟩ := info_parts info_span
    have HX := Lib.hid (IntsB.new w [a, b] 36)
    rcases Int.lt_or_le a b with hab | hab
    · have hN := prtN_of hab _ rfl
      obtain ⟨p, hp⟩ : ∃ p, p = (b - 1) / 28800 := ⟨_, rfl⟩
      obtain ⟨q, hq⟩ : ∃ q, q = a / 28800 := ⟨_, rfl⟩
      have p0 : 0 ≤ p ∧ p ≤ 74566 := by omega
      have q0 : 0 ≤ q ∧ q ≤ 74566 := by omega
      have pq : q ≤ p := by omega
      rw [← hp, ← hq] at hN
      have ep : (b - 1) / 28800 = p := hp.symm
      have eq : a / 28800 = q := hq.symm
      clear hp hq
      rcases Int.lt_or_le 256 (p - q + 1) with hbig | hsm
      · have HE := Lib.hid (prtE_full HW.out (by omega))
        go_enter Tryd.func25, Tryd.ntmps25
        go_wp2_with fail
        refine (ref_within a b _).mono ?_
        rintro e w1 ⟨rfl, hb⟩
        rw [HW.out]
        have HB := Lib.hid (bstep (below_alloc w _) hb)
        have HI : Hid (IntsB w1 w.heap.size [a, b]) := HX.out.on hb
        have hlt := HI.out.lt
        have hc0 := (HI.out.cell (k := 0) rfl).1
        have hc1 := (HI.out.cell (k := 1) rfl).1
        clear hb
        go_wp2_with fail
        go_ret2
        exact PrtRes.err HE.out (by decide) HB.out
      · have hn : prtN a b ≤ 256 := by omega
        have hd : decide (256 < p - q + 1) = false := decide_eq_false (by omega)
        clear hN
        go_enter Tryd.func25, Tryd.ntmps25
        go_wp2_with fail
        refine (ref_within a b _).mono ?_
        rintro e w1 ⟨rfl, hb⟩
        rw [HW.out]
        have HB := Lib.hid (bstep (below_alloc w _) hb)
        have HI : Hid (IntsB w1 w.heap.size [a, b]) := HX.out.on hb
        have hlt := HI.out.lt
        have hc0 := (HI.out.cell (k := 0) rfl).1
        have hc1 := (HI.out.cell (k := 1) rfl).1
        clear hb
        go_wp2_with fail
        go_loopw [4, 5] (fun v x wr => ∃ k : Nat, k ≤ 256 ∧ k ≤ prtN a b ∧ x = .int .i64 (cur a b k) ∧ Own wr w1.heap.size v (partsL a b k) ∧ IntsB wr w.heap.size [a, b] ∧ Below w.heap.size w wr ∧ w1.heap.size ≤ wr.heap.size) (fun v _ _ => 257 - slen v)
        case atStart => exact ⟨0, by decide, Nat.zero_le _, rfl, Own.nil _ _, HI.out, HB.out, Nat.le_refl _⟩
        case round =>
          obtain ⟨k, hk, hkn, rfl, hown, hblk, hbel, hsz⟩ := hrel
          clear ep eq hd
          obtain ⟨Av, cap, rfl⟩ := hown.shape
          rw [partsL_length] at hown
          rw [partsL_length]
          have HO := Lib.hid hown
          have HK := Lib.hid hblk
          have HW2 := Lib.hid hbel
          have hc1 := (hblk.cell (k := 1) rfl).1
          have hcl := cur_lt g1 g2 k
          have hbd := cur_bd g1 g2 k
          obtain ⟨x, hx⟩ : ∃ x, x = cur a b k := ⟨_, rfl⟩
          rw [← hx] at hcl hbd
          rw [← hx]
          clear hown hblk hbel
          rcases Nat.lt_or_eq_of_le hkn with hlt | hge
          · have hxb : x < b := hcl.mpr hlt
            have hst := cur_step g1 g2 (k := k) (by rw [← hx]; exact hxb)
            have hbd2 := cur_bd g1 g2 (k + 1)
            have hcs := partsL_succ a b k
            obtain ⟨y, hy⟩ : ∃ y, y = cur a b (k + 1) := ⟨_, rfl⟩
            rw [← hx, ← hy] at hst hcs
            rw [← hy] at hbd2
            obtain ⟨q, hq⟩ : ∃ q, q = x / 28800 := ⟨_, rfl⟩
            rw [← hq] at hst
            have q0 : 0 ≤ q ∧ q ≤ 74566 := by omega
            have eq2 : x / 28800 = q := hq.symm
            have HCS := Lib.hid hcs
            have HY := Lib.hid hy
            have HLT := Lib.hid hlt
            clear hcl hx hcs hy hq
            have hk2 : k < 256 := by omega
            have wq1 : IntKind.i64.wrap (q + 1) = q + 1 := wrap_id (by omega) (by omega)
            have wq2 : IntKind.i64.wrap ((q + 1) * 28800) = (q + 1) * 28800 := wrap_id (by omega) (by omega)
            have HOW := Lib.hid (Own.alloc HO.out (.cells #[.int .i64 x, .int .i64 y] 36))
            have x0 : 0 ≤ x := by omega
            go_wp2_with (at_builtin; refine wpList_append_own _ rfl _ _ 41 rfl w1.heap.size 36 i0 _ 2 16 Tryd.underlying41 hi hz0 hz1 hz2 rfl (by decide) (.slice Av k cap) (partsL a b k).length (cellsS (partsL a b k)) rfl HOW.out ⟨wr.heap.size, 0, none⟩ 1 1 [.int .i64 x, .int .i64 y] rfl rfl ?c1 ?c2 ?c3 ?c4 ?c5 ?_)
            case c1 =>
              intro j u hu
              rw [Go.WideShapes.add_plain]
              rcases j with _ | _ | j
              · simp at hu; subst hu; simp
              · simp at hu; subst hu; simp
              · simp at hu
            case c2 => exact one_cells
            case c3 => rw [partsL_length]; unfold maxLen; omega
            case c4 => rw [partsL_length]; omega
            case c5 => simp; omega
            intro v' w5 hown5 hgrow hres
            clear hres
            have hB6 : Below wr.heap.size wr (wr.alloc (.cells #[.int .i64 x, .int .i64 y] 36)) := (Below.refl _ _).alloc (Nat.le_refl _) _
            have hs6 : wr.heap.size + 1 ≤ (wr.alloc (.cells #[.int .i64 x, .int .i64 y] 36)).heap.size := by simp
            have hge := HO.out.ge
            have n1 : some w.heap.size ≠ (Value.slice Av k cap).ownBlock := fun e => by have := hge _ e.symm; omega
            have HI5 : Hid (IntsB w5 w.heap.size [a, b]) := HK.out.keep ((hgrow.block w.heap.size (by omega) n1).trans (hB6.block w.heap.size (by omega)))
            have HO5 : Hid (Own w5 w1.heap.size v' (partsL a b (k + 1))) := by
              rw [HCS.out]
              unfold Own
              rw [List.length_append, cellsS_snoc]; exact hown5
            have HW5 : Hid (Below w.heap.size w w5) := (HW2.out.alloc (by omega) _).grown hgrow (by omega) (fun i e => by have := hge i e; omega)
            have hsz5 : w1.heap.size ≤ w5.heap.size := by have := hgrow.size; omega
            clear hB6 hs6 hge n1 hown5 hgrow
            obtain ⟨A5, cap5, rfl⟩ := HO5.out.shape
            have hpl := partsL_length a b (k + 1)
            rw [hpl]
            rw [hpl] at HO5
            clear hpl
            go_wp2_with fail
            go_roundw
            case rel =>
              exact ⟨k + 1, by omega, by have := HLT.out; omega, by rw [← HY.out], HO5.out, HI5.out, HW5.out, hsz5⟩
            case measure => simp [slen]; omega
          · subst hge
            have hxb : x = b := by have := cur_end g1 g2; omega
            have d1 : decide (x < b) = false := decide_eq_false (by omega)
            have HE := Lib.hid (prtE_ok HW.out hk)
            have HR := Lib.hid HO.out.inL
            clear hcl hx hxb
            go_wp2_with fail
            go_ret2
            exact ⟨.slice Av (prtN a b) cap, by rw [HE.out]; rfl, by rw [prtL_ok HE.out]; exact HR.out, HW2.out⟩
    · have hn : prtN a b ≤ 256 := by unfold prtN; rw [if_neg (by omega)]; omega
      have hd : decide (a < b) = false := decide_eq_false (by omega)
      go_enter Tryd.func25, Tryd.ntmps25
      go_wp2_with fail
      refine (ref_within a b _).mono ?_
      rintro e w1 ⟨rfl, hb⟩
      rw [HW.out]
      have HB := Lib.hid (bstep (below_alloc w _) hb)
      have HI : Hid (IntsB w1 w.heap.size [a, b]) := HX.out.on hb
      have hlt := HI.out.lt
      have hc0 := (HI.out.cell (k := 0) rfl).1
      have hc1 := (HI.out.cell (k := 1) rfl).1
      clear hb
      go_wp2_with fail
      go_loopw [4, 5] (fun v x wr => ∃ k : Nat, k ≤ 256 ∧ k ≤ prtN a b ∧ x = .int .i64 (cur a b k) ∧ Own wr w1.heap.size v (partsL a b k) ∧ IntsB wr w.heap.size [a, b] ∧ Below w.heap.size w wr ∧ w1.heap.size ≤ wr.heap.size) (fun v _ _ => 257 - slen v)
      case atStart => exact ⟨0, by decide, Nat.zero_le _, rfl, Own.nil _ _, HI.out, HB.out, Nat.le_refl _⟩
      case round =>
        obtain ⟨k, hk, hkn, rfl, hown, hblk, hbel, hsz⟩ := hrel
        clear hd
        obtain ⟨Av, cap, rfl⟩ := hown.shape
        rw [partsL_length] at hown
        rw [partsL_length]
        have HO := Lib.hid hown
        have HK := Lib.hid hblk
        have HW2 := Lib.hid hbel
        have hc1 := (hblk.cell (k := 1) rfl).1
        have hcl := cur_lt g1 g2 k
        have hbd := cur_bd g1 g2 k
        obtain ⟨x, hx⟩ : ∃ x, x = cur a b k := ⟨_, rfl⟩
        rw [← hx] at hcl hbd
        rw [← hx]
        clear hown hblk hbel
        rcases Nat.lt_or_eq_of_le hkn with hlt | hge
        · have hxb : x < b := hcl.mpr hlt
          omega
        · subst hge
          have hxb : x = b := by have := cur_end g1 g2; omega
          have d1 : decide (x < b) = false := decide_eq_false (by omega)
          have HE := Lib.hid (prtE_ok HW.out hk)
          have HR := Lib.hid HO.out.inL
          clear hcl hx hxb
          go_wp2_with fail
          go_ret2
          exact ⟨.slice Av (prtN a b) cap, by rw [HE.out]; rfl, by rw [prtL_ok HE.out]; exact HR.out, HW2.out⟩
#print axioms ref_Parts
end Go.Proofs.YtngjdclcnocmfaaDoor.Clock
