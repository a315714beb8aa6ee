/- The chapter's values (awake). -/
import Derived.Test.YtkgmfdmgaloaoaaPqueueAA
namespace Go.Proofs.Ytkgmfdmgaloaoaa.PqueueI
open Go.ChangeShapes Go.WideShapes Go.RowKit Go.Lib Go.Proofs.Ytkgmfdmgaloaoaa.Pqueue
set_option linter.unusedVariables false
set_option maxRecDepth 100000

/-- The first value lies at i: by reckoning. -/
def isfB (lt : It → It → Bool) (L : List It) (i : Nat) : Bool :=
  match L[i]? with
  | none => false
  | some x => (List.range L.length).all fun j => match L[j]? with
    | none => true
    | some y => if j < i then lt x y else if i < j then !lt y x else true
theorem isf_of {lt : It → It → Bool} {L : List It} {i : Nat} (h : isfB lt L i = true) : IsF lt L i := by
  unfold isfB at h
  split at h
  · cases h
  · rename_i x hx
    rw [List.all_eq_true] at h
    refine ⟨x, hx, fun j y hj hy => ?_, fun j y hj hy => ?_⟩
    · have := h j (List.mem_range.mpr (glt hy))
      rw [hy] at this
      simpa [hj] using this
    · have := h j (List.mem_range.mpr (glt hy))
      rw [hy] at this
      have hn : ¬ j < i := by omega
      simpa [hn, hj] using this
def L4 : List It := [(31, 0), (12, 1), (35, 2), (10, 3)]
def L3 : List It := [(31, 0), (35, 2), (10, 3)]
def L2 : List It := [(31, 0), (35, 2)]
theorem f4 : IsF tensB L4 1 := isf_of (by decide +kernel)
theorem f3 : IsF tensB L3 2 := isf_of (by decide +kernel)
theorem f2 : IsF tensB L2 0 := isf_of (by decide +kernel)
def V4 : List Int := [31, 12, 35, 10]
theorem v4_at {k : Nat} {x : It} (h : L4[k]? = some x) : V4[k]? = some x.1 ∧ x.2 = (k : Int) := by
  match k, h with
  | 0, h => cases h; exact ⟨rfl, rfl⟩
  | 1, h => cases h; exact ⟨rfl, rfl⟩
  | 2, h => cases h; exact ⟨rfl, rfl⟩
  | 3, h => cases h; exact ⟨rfl, rfl⟩
set_option maxHeartbeats 1600000 in
theorem awake_true (w : World) : Calls Try.prog 10 #[] w fun e w' => e = .returned (.bool true) ∧ Below w.heap.size w w' := by
  go_enter Try.func10, Try.ntmps10
  go_wp2_with fail
  refine (q_New 31 w).mono ?_
  intro e w1 hnew
  obtain ⟨rfl, hq1, hb1⟩ := hnew.open_ tensB
  have HQ1 := Lib.hid hq1
  have HB1 := Lib.hid hb1
  clear hnew hq1 hb1
  go_wp2_with fail
  generalize hw2 : w1.alloc (.cells #[.int .i64 31, .int .i64 12, .int .i64 35, .int .i64 10] 3) = w2
  have HB2 : Hid (Below w1.heap.size w1 w2) := hw2 ▸ below_alloc _ _
  have HG := Lib.hid (show w2.heap[w1.heap.size]? = some (.cells #[.int .i64 31, .int .i64 12, .int .i64 35, .int .i64 10] 3 (0, 0)) by rw [← hw2]; exact heap_alloc_new _ _)
  have HGL := Lib.hid (show w.heap.size < w1.heap.size from HQ1.out.bnd _ rfl)
  have HSZ := Lib.hid (show w1.heap.size < w2.heap.size by rw [← hw2]; simp)
  clear hw2
  go_loopw [3] (fun i wr => ∃ (k : Nat) (S : Nat → Prop), k ≤ 4 ∧ i = .int .i64 (k : Int) ∧ Qr wr w.heap.size S 31 tensB (L4.take k) k ∧ (∀ j, S j → j = w.heap.size ∨ w1.heap.size < j) ∧ wr.heap[w1.heap.size]? = w2.heap[w1.heap.size]? ∧ w2.heap.size ≤ wr.heap.size ∧ Below w.heap.size w wr) (fun i _ => 4 - (intOf i).toNat)
  case atStart => exact ⟨0, _, by omega, rfl, HQ1.out.on HB2.out, fun j h => Or.inl h, rfl, Nat.le_refl _, bstep HB1.out HB2.out⟩
  case round =>
    obtain ⟨k, S, hk, rfl, hq, hS, hg, hsz, hbel⟩ := hrel
    have HQ := Lib.hid hq
    have HS := Lib.hid hS
    have HGR := Lib.hid (hg.trans HG.out)
    have HG2 := Lib.hid hg
    have HZ := Lib.hid hsz
    have HW := Lib.hid hbel
    clear hq hS hg hsz hbel
    rcases Nat.lt_or_ge k 4 with hlt | hge
    · obtain ⟨x, hx⟩ := get_lt (L := L4) (k := k) (by exact hlt)
      obtain ⟨v1, v2⟩ := v4_at hx
      have HX := Lib.hid (take_snoc_of hx)
      have hc : wr.cell? ⟨w1.heap.size, k, none⟩ = some (.int .i64 x.1) := by
        rw [cell_of_row _ _ _ _ _ _ HGR.out]
        match k, v1 with
        | 0, v1 => rw [← Option.some.inj (show some (31 : Int) = some x.1 from v1)]; rfl
        | 1, v1 => rw [← Option.some.inj (show some (12 : Int) = some x.1 from v1)]; rfl
        | 2, v1 => rw [← Option.some.inj (show some (35 : Int) = some x.1 from v1)]; rfl
        | 3, v1 => rw [← Option.some.inj (show some (10 : Int) = some x.1 from v1)]; rfl
      have hgl1 : w1.heap.size < wr.heap.size := Nat.lt_of_lt_of_le HSZ.out HZ.out
      have i1 : (k : Int) < 4 := by omega
      have i2 : (0 : Int) ≤ (k : Int) := by omega
      have HV2 := Lib.hid v2
      have HP := Lib.hid (push_at HQ.out ord_tens (by rw [List.length_take]; omega) (by omega) x)
      rw [show eV x = .agg #[.int .i64 x.1, .int .i64 (k : Int)] by show Value.agg #[.int .i64 x.1, .int .i64 x.2] = _; rw [HV2.out]] at HP
      clear v1 v2 hx
      go_wp2_with fail
      refine HP.out.mono ?_
      rintro e w4 ⟨rfl, S', hq4, hs4, ho4⟩
      have HQ4 := Lib.hid hq4
      have HS4 := Lib.hid (show ∀ j, S' j → j = w.heap.size ∨ w1.heap.size < j from fun j hj => by
        rcases hs4 j hj with h | h
        · exact HS.out j h
        · exact Or.inr (by omega))
      have HG4 := Lib.hid (show w4.heap[w1.heap.size]? = w2.heap[w1.heap.size]? from (ho4.block _ hgl1 fun h => by
        rcases HS.out _ h with h1 | h1
        · have := HGL.out; omega
        · omega).trans HG2.out)
      have HO4 := Lib.hid (Off.below ho4 (B := w.heap.size) HW.out.size fun j hj => by
        rcases HS.out j hj with h1 | h1
        · omega
        · have := HGL.out; omega)
      have HZ4 := Lib.hid (Nat.le_trans HZ.out ho4.size)
      clear hq4 hs4 ho4 HP
      go_wp2_with fail
      go_roundw
      case rel => exact ⟨k + 1, S', by omega, by go_num, by rw [HX.out]; exact HQ4.out, HS4.out, HG4.out, HZ4.out, HW.out.trans HO4.out⟩
      case measure => simp [intOf]; omega
    · obtain rfl : k = 4 := by omega
      have HQ5 := Lib.hid (show Qr wr w.heap.size S 31 tensB L4 4 from HQ.out)
      have HS5 := Lib.hid (show ∀ j, S j → w.heap.size ≤ j from fun j hj => by
        rcases HS.out j hj with h1 | h1
        · omega
        · have := HGL.out; omega)
      clear HQ
      go_wp2_with fail
      refine (pop_at HQ5.out ord_tens (by decide) (by decide)).mono ?_
      rintro e w5 ⟨i, x, hx, hf, rfl, hq5, ho5⟩
      obtain rfl := (hf sw_tens).one sw_tens f4
      obtain rfl : x = (12, 1) := by cases hx; rfl
      have HQ6 := Lib.hid (show Qr w5 w.heap.size S 31 tensB L3 4 from hq5)
      have HB5 := Lib.hid (HW.out.trans (Off.below ho5 (B := w.heap.size) HW.out.size HS5.out))
      clear hx hf hq5 ho5
      go_wp2_with fail
      generalize hw6 : w5.alloc (.cells #[.int .i64 12, .int .i64 1] TV) = w6
      have HB6 : Hid (Below w5.heap.size w5 w6) := hw6 ▸ below_alloc _ _
      have HA6 := Lib.hid (show w6.heap[w5.heap.size]? = some (.cells #[.int .i64 12, .int .i64 1] TV (0, 0)) by rw [← hw6]; exact heap_alloc_new _ _)
      clear hw6
      refine (pop_at (HQ6.out.on HB6.out) ord_tens (by decide) (by decide)).mono ?_
      rintro e w7 ⟨i, x, hx, hf, rfl, hq7, ho7⟩
      obtain rfl := (hf sw_tens).one sw_tens f3
      obtain rfl : x = (10, 3) := by cases hx; rfl
      have HQ7 := Lib.hid (show Qr w7 w.heap.size S 31 tensB L2 4 from hq7)
      have HA7 := Lib.hid (show w7.heap[w5.heap.size]? = some (.cells #[.int .i64 12, .int .i64 1] TV (0, 0)) from (ho7.block _ (Array.getElem?_eq_some_iff.mp HA6.out).1 fun h => Nat.lt_irrefl _ (HQ6.out.bnd _ h)).trans HA6.out)
      have HB7 := Lib.hid ((bstep HB5.out HB6.out).trans (Off.below ho7 (B := w.heap.size) (bstep HB5.out HB6.out).size HS5.out))
      clear hx hf hq7 ho7
      go_wp2_with fail
      generalize hw8 : w7.alloc (.cells #[.int .i64 10, .int .i64 3] TV) = w8
      have HB8 : Hid (Below w7.heap.size w7 w8) := hw8 ▸ below_alloc _ _
      have HA8 := Lib.hid (show w8.heap[w7.heap.size]? = some (.cells #[.int .i64 10, .int .i64 3] TV (0, 0)) by rw [← hw8]; exact heap_alloc_new _ _)
      have HA9 := Lib.hid ((HB8.out.block _ (Array.getElem?_eq_some_iff.mp HA7.out).1).trans HA7.out)
      clear hw8
      refine (peek_at (HQ7.out.on HB8.out) (by decide) (by decide)).mono ?_
      rintro e w9 ⟨i, x, hx, hf, rfl, hb9⟩
      obtain rfl := (hf sw_tens).one sw_tens f2
      obtain rfl : x = (31, 0) := by cases hx; rfl
      have HQ9 := Lib.hid ((HQ7.out.on HB8.out).on hb9)
      have HC9 := Lib.hid ((hb9.block _ (Array.getElem?_eq_some_iff.mp HA8.out).1).trans HA8.out)
      have HD9 := Lib.hid ((hb9.block _ (Array.getElem?_eq_some_iff.mp HA9.out).1).trans HA9.out)
      have HB9 := Lib.hid (bstep (bstep HB7.out HB8.out) hb9)
      clear hx hf hb9
      go_upto_region 12 with fail
      generalize hwa : w9.alloc (.cells #[.int .i64 31, .int .i64 0] TV) = wa
      have HBA : Hid (Below w9.heap.size w9 wa) := hwa ▸ below_alloc _ _
      have HEA := Lib.hid (show wa.heap[w9.heap.size]? = some (.cells #[.int .i64 31, .int .i64 0] TV (0, 0)) by rw [← hwa]; exact heap_alloc_new _ _)
      clear hwa
      have k1 := (HBA.out.block _ (Array.getElem?_eq_some_iff.mp HC9.out).1).trans HC9.out
      have k2 := (HBA.out.block _ (Array.getElem?_eq_some_iff.mp HD9.out).1).trans HD9.out
      have e1 : wa.cell? ⟨w7.heap.size, 0, none⟩ = some (.int .i64 10) := by rw [cell_of_row _ _ _ _ _ _ k1]; rfl
      have e2 : wa.cell? ⟨w5.heap.size, 0, none⟩ = some (.int .i64 12) := by rw [cell_of_row _ _ _ _ _ _ k2]; rfl
      have e3 : wa.cell? ⟨w9.heap.size, 0, none⟩ = some (.int .i64 31) := by rw [cell_of_row _ _ _ _ _ _ HEA.out]; rfl
      clear k1 k2
      go_wp2_with fail
      refine (len_at (HQ9.out.on HBA.out)).mono ?_
      rintro e wb ⟨rfl, rfl⟩
      rw [show L2.length = 2 from rfl]
      go_wp2_with fail
      go_ret
      exact ⟨rfl, bstep HB9.out HBA.out⟩
#print axioms awake_true
end Go.Proofs.Ytkgmfdmgaloaoaa.PqueueI
