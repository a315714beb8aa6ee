/- Contracts of Parts of the program and of the reference. -/
import Derived.Test.YtngjdclcnocmfaaDoorClockG
import Derived.StillTailTactics
import Derived.Deep.RegionHeld3
namespace Go.Proofs.YtngjdclcnocmfaaDoor.Clock
open Go.ChangeShapes Go.WideShapes Go.RowKit Go.Lib
set_option linter.unusedVariables false
set_option maxRecDepth 100000

theorem number_int (x : Int) (h0 : 0 ≤ x) (h1 : x ≤ 4294967296) (w : World) : Calls Tryd.prog 28 #[.int .i64 x] w fun e w' => e = .returned (.int .i64 (x / 28800)) ∧ w = w' := by
  obtain ⟨n, rfl⟩ : ∃ n : Nat, x = n := ⟨x.toNat, by omega⟩
  exact clock_number n (by omega) w
theorem cur_step {a b : Int} (h0 : 0 ≤ a) (h1 : a ≤ b) {k : Nat} (h : cur a b k < b) : (if (cur a b k / 28800 + 1) * 28800 < b then (cur a b k / 28800 + 1) * 28800 else b) = cur a b (k + 1) := by
  rw [← cur_next h0 h1 h]; omega
theorem Own.lt {w : World} {base : Nat} {v : Value} {L : List Sp} (h : Own w base v L) : ∀ k, v.ownBlock = some k → k < w.heap.size := by
  obtain ⟨h1, ⟨rfl, h2⟩ | ⟨g, cap, cur, rfl, h2, h3, _⟩⟩ := h
  · intro k hk; cases hk
  · intro k hk; obtain rfl : g = k := by simpa [Value.ownBlock] using hk
    exact (Array.getElem?_eq_some_iff.mp h3).1
def slen : Value → Nat
  | .slice _ n _ => n
  | _ => 0

set_option maxHeartbeats 1600000 in
theorem clock_Parts (a b : Int) (w : World) : Calls Tryd.prog 24 #[.agg #[.int .i64 a, .int .i64 b]] w (PrtRes a b w) := by
  cases hw : wit a b with
  | false =>
    have HW := Lib.hid hw
    clear hw
    go_enter Tryd.func24, Tryd.ntmps24
    go_wp2_with fail
    refine (is_time a b _).mono ?_
    rintro e w1 ⟨rfl, hb⟩
    rw [HW.out]
    have HB := Lib.hid (bstep (below_alloc w _) hb)
    clear hb
    go_wp2_with fail
    go_ret2
    exact PrtRes.err (prtE_range HW.out) (by decide) HB.out
  | true =>
    have HW := Lib.hid hw
    obtain ⟨g1, g2, g3⟩ := wit_iff.mp hw
    clear hw
    obtain ⟨i0, hi, hz0, hz1, hz2⟩ := info_parts info_span
    have HX := Lib.hid (IntsB.new w [a, b] 36)
    go_enter Tryd.func24, Tryd.ntmps24
    go_wp2_with fail
    refine (is_time a b _).mono ?_
    rintro e w1 ⟨rfl, hb⟩
    rw [HW.out]
    have HB := Lib.hid (bstep (below_alloc w _) hb)
    have HI : Hid (IntsB w1 w.heap.size [a, b]) := HX.out.on hb
    have hlt := HI.out.lt
    clear hb
    go_wp2_with fail
    go_loopw [4] (fun v wr => ∃ k : Nat, k ≤ 256 ∧ k ≤ prtN a b ∧ Own wr w1.heap.size v (partsL a b k) ∧ IntsB wr w.heap.size [cur a b k, b] ∧ Below w.heap.size w wr ∧ w1.heap.size ≤ wr.heap.size) (fun v _ => 257 - slen v)
    case atStart => exact ⟨0, by decide, Nat.zero_le _, Own.nil _ _, HI.out, HB.out, Nat.le_refl _⟩
    case round =>
      obtain ⟨k, hk, hkn, hown, hblk, hbel, hsz⟩ := hrel
      obtain ⟨Av, cap, rfl⟩ := hown.shape
      rw [partsL_length] at hown
      rw [partsL_length]
      have HO := Lib.hid hown
      have HK := Lib.hid hblk
      have HW2 := Lib.hid hbel
      have hc0 := (hblk.cell (k := 0) rfl).1
      have hc1 := (hblk.cell (k := 1) rfl).1
      have hcl := cur_lt g1 g2 k
      have hbd := cur_bd g1 g2 k
      obtain ⟨x, hx⟩ : ∃ x, x = cur a b k := ⟨_, rfl⟩
      rw [← hx] at hc0 hcl hbd
      clear hown hblk hbel
      rcases Nat.lt_or_eq_of_le hkn with hlt | hge
      · have hxb : x < b := hcl.mpr hlt
        have hst := cur_step g1 g2 (k := k) (by rw [← hx]; exact hxb)
        have hsh := cur_shift g1 g2 (k := k) (by rw [← hx]; exact hxb)
        have hbd2 := cur_bd g1 g2 (k + 1)
        have hcs := partsL_succ a b k
        obtain ⟨y, hy⟩ : ∃ y, y = cur a b (k + 1) := ⟨_, rfl⟩
        rw [← hx, ← hy] at hst hsh hcs
        rw [← hy] at hbd2
        obtain ⟨q, hq⟩ : ∃ q, q = x / 28800 := ⟨_, rfl⟩
        have HN := Lib.hid (number_int x (by omega) (by omega))
        rw [← hq] at HN hst
        have q0 : 0 ≤ q ∧ q ≤ 74566 := by omega
        rw [← hx] at HK
        have HX2 := Lib.hid hx
        have HCS := Lib.hid hcs
        have HY := Lib.hid hy
        have HLT := Lib.hid hlt
        clear hcl hx hcs hy hq hsh
        rcases Nat.lt_or_eq_of_le hk with hk2 | hk2
        · have k0 : ((k : Int) == 256) = false := beq_false_of_ne (by omega)
          have KA : Hid (∀ o : Obj, (wr.alloc o).drew.cell? ⟨w.heap.size, 0, none⟩ = some (.int .i64 x) ∧ (wr.alloc o).drew.cell? ⟨w.heap.size, 1, none⟩ = some (.int .i64 b)) := fun o =>
            ⟨((below_alloc wr o).cell (p := ⟨w.heap.size, 0, none⟩) (show w.heap.size < wr.heap.size by omega)).trans hc0, ((below_alloc wr o).cell (p := ⟨w.heap.size, 1, none⟩) (show w.heap.size < wr.heap.size by omega)).trans hc1⟩
          have wq1 : IntKind.i64.wrap (q + 1) = q + 1 := wrap_id (by omega) (by omega)
          have wq2 : IntKind.i64.wrap ((q + 1) * 28800) = (q + 1) * 28800 := wrap_id (by omega) (by omega)
          go_wp2_with fail
          go_region_held3 (fun W' => W'.cell? ⟨w.heap.size, 0, none⟩ = some (.int .i64 x) ∧ W'.cell? ⟨w.heap.size, 1, none⟩ = some (.int .i64 b))
            (first | exact ⟨hc0, hc1⟩ | exact KA.out _)
            ((go_at_call 28; (with_reducible refine (HN.out _).mono ?_); rintro e w2 ⟨rfl, rfl⟩))
          all_goals
            rename_i hheld
            clear hheld
            have HOW := Lib.hid (show Own ((wr.alloc (.cells #[.int .i64 x, .int .i64 y] 36)).alloc (.cells #[.int .i64 x, .int .i64 y] 36)).drew w1.heap.size _ _ from ((HO.out.alloc (.cells #[.int .i64 x, .int .i64 y] 36)).alloc (.cells #[.int .i64 x, .int .i64 y] 36)).keep fun _ _ _ => rfl)
            have hp0 : (wr.alloc (.cells #[.int .i64 x, .int .i64 y] 36)).drew.cell? ⟨wr.heap.size, 0, none⟩ = some (.int .i64 x) := by simp
            have hp1 : (wr.alloc (.cells #[.int .i64 x, .int .i64 y] 36)).drew.cell? ⟨wr.heap.size, 1, none⟩ = some (.int .i64 y) := by simp
            go_wp2_with (at_builtin; refine wpList_append_own _ rfl _ _ 41 rfl w1.heap.size 36 i0 _ 2 16 Tryd.underlying41 hi hz0 hz1 hz2 rfl (by decide) (.slice Av k cap) (partsL a b k).length (cellsS (partsL a b k)) rfl HOW.out ⟨wr.heap.size + 1, 0, none⟩ 1 1 [.int .i64 x, .int .i64 y] rfl rfl ?c1 ?c2 ?c3 ?c4 ?c5 ?_)
            case c1 =>
              intro j u hu
              rw [Go.WideShapes.add_plain]
              rcases j with _ | _ | j
              · simp at hu; subst hu; simp
              · simp at hu; subst hu; simp
              · simp at hu
            case c2 => exact one_cells
            case c3 => rw [partsL_length]; unfold maxLen; omega
            case c4 => rw [partsL_length]; omega
            case c5 => simp; omega
            intro v' w5 hown5 hgrow hres
            clear hres hp0 hp1
            have hB6 : Below wr.heap.size wr ((wr.alloc (.cells #[.int .i64 x, .int .i64 y] 36)).alloc (.cells #[.int .i64 x, .int .i64 y] 36)).drew := (((Below.refl _ _).alloc (Nat.le_refl _) _).alloc (by simp) _).drew
            have hs6 : wr.heap.size + 2 ≤ ((wr.alloc (.cells #[.int .i64 x, .int .i64 y] 36)).alloc (.cells #[.int .i64 x, .int .i64 y] 36)).drew.heap.size := by simp
            have hge := HO.out.ge
            have hl5 := HO.out.lt
            have n1 : some w.heap.size ≠ (Value.slice Av k cap).ownBlock := fun e => by have := hge _ e.symm; omega
            have n2 : some wr.heap.size ≠ (Value.slice Av k cap).ownBlock := fun e => by have := hl5 _ e.symm; omega
            have HI5 : Hid (IntsB w5 w.heap.size [x, b]) := HK.out.keep ((hgrow.block w.heap.size (by omega) n1).trans (hB6.block w.heap.size (by omega)))
            have h51 : w5.cell? ⟨wr.heap.size, 1, none⟩ = some (.int .i64 y) := (hgrow.cell_far ⟨wr.heap.size, 1, none⟩ (by show wr.heap.size < _; omega) n2).trans (by simp)
            have h50 := (HI5.out.cell (k := 0) rfl)
            have f50 := h50.2
            replace h50 := h50.1
            have HO5 : Hid (Own w5 w1.heap.size v' (partsL a b (k + 1))) := by
              rw [HCS.out]
              unfold Own
              rw [List.length_append, cellsS_snoc]; exact hown5
            have HW5 : Hid (Below w.heap.size w w5) := (((HW2.out.alloc (by omega) _).alloc (by simp; omega) _).drew).grown hgrow (by omega) (fun i e => by have := hge i e; omega)
            have hsz5 : w1.heap.size ≤ w5.heap.size := by have := hgrow.size; omega
            clear hB6 hs6 hge hl5 n1 n2 hown5 hgrow
            obtain ⟨A5, cap5, rfl⟩ := HO5.out.shape
            have hpl := partsL_length a b (k + 1)
            rw [hpl]
            rw [hpl] at HO5
            clear hpl
            go_wp2_with fail
            go_roundw
            case rel => exact ⟨k + 1, by omega, by have := HLT.out; omega, HO5.out.set (by omega) _, by rw [← HY.out]; exact HI5.out.store 0 y, HW5.out.setCell (Nat.le_refl _) _, by simpa using hsz5⟩
            case measure => simp [slen]; omega
        · subst hk2
          have HE := Lib.hid (prtE_full HW.out HLT.out)
          go_wp2_with fail
          go_ret2
          exact PrtRes.err HE.out (by decide) HW2.out
      · subst hge
        have hxb : x = b := by have := cur_end g1 g2; omega
        have d1 : decide (x < b) = false := decide_eq_false (by omega)
        have HE := Lib.hid (prtE_ok HW.out hk)
        have HR := Lib.hid HO.out.inL
        clear hcl hx hxb
        go_wp2_with fail
        go_ret2
        exact ⟨.slice Av (prtN a b) cap, by rw [HE.out]; rfl, by rw [prtL_ok HE.out]; exact HR.out, HW2.out⟩
#print axioms clock_Parts
end Go.Proofs.YtngjdclcnocmfaaDoor.Clock
