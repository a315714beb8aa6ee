/- reversed, Reverse, Join of the program. -/
import Derived.Test.YtnblpooimgpgoaaIsoO
namespace Go.Proofs.Ytnblpooimgpgoaa.Iso
open Go.ChangeShapes Go.WideShapes Go.RowKit Go.Lib Go.Proofs.Ytnblpooimgpgoaa.Rw
set_option linter.unusedVariables false
set_option maxRecDepth 100000

abbrev zR : Rn := (0, 0, false)
theorem made_runs (n : Nat) : (madeCells #[.int .i64 0, .int .i64 0, .bool false] (n * 3)).toList = (List.replicate n zR).flatMap cR := by
  apply List.ext_getElem?
  intro j
  by_cases hj : j < n * 3
  · have hk : (List.replicate n zR)[j / 3]? = some zR := by rw [List.getElem?_replicate, if_pos (by omega)]
    have hm : j % 3 = 0 ∨ j % 3 = 1 ∨ j % 3 = 2 := by omega
    have e : j = j / 3 * 3 + j % 3 := by omega
    have hr : (madeCells #[.int .i64 0, .int .i64 0, .bool false] (n * 3)).toList[j]? = (cR zR)[j % 3]? := by
      unfold madeCells
      rcases hm with hm | hm | hm <;> simp [hj, hm]
    rw [hr]
    rcases hm with hm | hm | hm
    · rw [e, flat_at cR_len hk (j := j % 3) (u := .int .i64 0) (by rw [hm]; rfl), ← e, hm]; rfl
    · rw [e, flat_at cR_len hk (j := j % 3) (u := .int .i64 0) (by rw [hm]; rfl), ← e, hm]; rfl
    · rw [e, flat_at cR_len hk (j := j % 3) (u := .bool false) (by rw [hm]; rfl), ← e, hm]; rfl
  · rw [List.getElem?_eq_none (by simp [madeCells]; omega), List.getElem?_eq_none (by rw [flat_len cR_len, List.length_replicate]; omega)]
theorem make_runs (n : Nat) (hn : n ≤ 5000) (W : World) :
    (Instr.makeSlice 22 (.int .i64 (n : Int)) (.int .i64 (n : Int))).run Try.prog W = .ok (.slice (some ⟨W.heap.size, 0, none⟩) n n) (W.alloc (.cells (madeCells #[.int .i64 0, .int .i64 0, .bool false] (n * 3)) 48)) := by
  obtain ⟨i, hi, hz, hs, hb⟩ := info_parts info_r
  have h := run_make (P := Try.prog) (w := W) 22 48 i _ Try.underlying22 hi hz .i64 .i64 (n : Int) (n : Int) (by omega) (by omega) (by rw [hb]; omega) (by omega)
  rw [hs, Int.toNat_natCast] at h
  exact h
theorem row_made (W : World) (n : Nat) (hn : n ≤ 5000) : Row cR 3 TR W.heap.size (W.alloc (.cells (madeCells #[.int .i64 0, .int .i64 0, .bool false] (n * 3)) 48)) (.slice (some ⟨W.heap.size, 0, none⟩) n n) (List.replicate n zR) := by
  have h := World.ownsRow_lit (base := W.heap.size) (e := TR) (size := 3) W (madeCells #[.int .i64 0, .int .i64 0, .bool false] (n * 3)) n (Nat.le_refl _) (by unfold maxLen; omega) (by rw [size_madeCells])
  unfold Row
  rw [List.length_replicate, ← made_runs]
  exact h
/-- The last k runs are those that are reversed. -/
def Rvd (L X : List Rn) (k : Nat) : Prop := X.length = L.length ∧ ∀ (j : Nat) (r : Rn), j < k → L[j]? = some r → X[L.length - 1 - j]? = some (revR r)
theorem Rvd.step {L X : List Rn} {k : Nat} {r : Rn} (h : Rvd L X k) (hr : L[k]? = some r) : Rvd L (X.set (L.length - 1 - k) (revR r)) (k + 1) := by
  have hk := glt hr
  refine ⟨by rw [List.length_set]; exact h.1, fun j s hj hs => ?_⟩
  rcases Nat.lt_or_eq_of_le (Nat.le_of_lt_succ hj) with h1 | h1
  · rw [List.getElem?_set_ne (by omega)]; exact h.2 j s h1 hs
  · subst h1
    rw [hr] at hs; cases hs
    rw [List.getElem?_set_self (by rw [h.1]; omega)]
theorem Rvd.done {L X : List Rn} (h : Rvd L X L.length) : X = L.reverse.map revR := by
  apply List.ext_getElem?
  intro i
  rcases Nat.lt_or_ge i L.length with hi | hi
  · obtain ⟨r, hr⟩ := get_lt (L := L) (k := L.length - 1 - i) (by omega)
    have h1 := h.2 (L.length - 1 - i) r (by omega) hr
    rw [show L.length - 1 - (L.length - 1 - i) = i by omega] at h1
    rw [h1, List.getElem?_map, List.getElem?_reverse hi, hr]; rfl
  · rw [List.getElem?_eq_none (by rw [h.1]; exact hi), List.getElem?_eq_none (by rw [List.length_map, List.length_reverse]; exact hi)]

def revL (L : List Rn) : List Rn := if eC L = 0 then nfL (ex L).reverse else []
/-- A map in memory of its own. -/
def ResF (M : List Rn) (w : World) (e : Ending) (w' : World) : Prop := ∃ A c, e = .returned (.slice A M.length c) ∧ Mp w' A c M ∧ (∀ (b off : Nat), A = some ⟨b, off, none⟩ → w.heap.size ≤ b) ∧ Below w.heap.size w w'
set_option maxHeartbeats 1600000 in
theorem iso_reversed (L : List Rn) (A : Option Addr) (c : Nat) (w : World) (ha : Rns w A L) (hg : ∀ r ∈ L, gd r = true) (hm : L.length ≤ 600) :
    Calls Try.prog 59 #[.slice A L.length c] w (ResF (L.reverse.map revR) w) := by
  have HA := Lib.hid ha
  have HG := Lib.hid hg
  obtain ⟨N, hN⟩ : ∃ N, L.length = N := ⟨_, rfl⟩
  have HN := Lib.hid hN
  rw [hN]
  rw [hN] at hm
  have hmk := make_runs N (by omega)
  clear ha hg hN
  go_enter Try.func59, Try.ntmps59
  go_upto_region 2 with fail
  generalize hw1 : w.alloc (.cells (madeCells #[.int .i64 0, .int .i64 0, .bool false] (N * 3)) 48) = w1
  have HB1 : Hid (Below w.heap.size w w1) := hw1 ▸ below_alloc _ _
  have HR1 : Hid (Row cR 3 TR w.heap.size w1 (.slice (some ⟨w.heap.size, 0, none⟩) N N) (List.replicate N zR)) := hw1 ▸ row_made w N (by omega)
  clear hw1 hmk
  go_wp2_with fail
  go_loopw [11] (fun i wr => ∃ (k : Nat) (X : List Rn), k ≤ N ∧ i = .int .i64 k ∧ Rvd L X k ∧ Row cR 3 TR w.heap.size wr (.slice (some ⟨w.heap.size, 0, none⟩) N N) X ∧ Below w.heap.size w wr) (fun i _ => N - (intOf i).toNat)
  case atStart => exact ⟨0, _, Nat.zero_le _, rfl, ⟨by rw [List.length_replicate, HN.out], fun j r h => absurd h (by omega)⟩, HR1.out, HB1.out⟩
  case round =>
    obtain ⟨k, X, hk, rfl, hx, hrow, hbel⟩ := hrel
    have HX := Lib.hid hx
    have HR := Lib.hid hrow
    have HB := Lib.hid hbel
    clear hx hrow hbel
    rcases Nat.lt_or_ge k N with hlt | hge
    · obtain ⟨r, hr⟩ := get_lt (L := L) (k := k) (by rw [HN.out]; exact hlt)
      obtain ⟨b, off, rfl, hb, d0, d1, d2⟩ := rd_at (HA.out.on HB.out) hr
      have HXN : Hid (X.length = N) := HX.out.1.trans HN.out
      have HGr := Lib.hid (HG.out r (List.mem_of_getElem? hr))
      obtain ⟨g1, g2, g3, g4, -, -⟩ := gd_iff.mp HGr.out
      have HSt := Lib.hid (HX.out.step hr)
      obtain ⟨J, hJ⟩ : ∃ J, N - 1 - k = J := ⟨_, rfl⟩
      rw [HN.out, hJ] at HSt
      have hJl : J < N := by omega
      have j1 : (N : Int) - 1 = ((N - 1 : Nat) : Int) := by omega
      obtain ⟨N1, hN1⟩ : ∃ N1 : Nat, N - 1 = N1 := ⟨_, rfl⟩
      rw [hN1] at j1
      have j2 : (N1 : Int) - (k : Int) = (J : Int) := by omega
      have w1' : IntKind.i64.wrap (N1 : Int) = (N1 : Int) := wrap_id (by omega)
      have w2' : IntKind.i64.wrap (J : Int) = (J : Int) := wrap_id (by omega)
      have w3' : IntKind.i64.wrap (r.2.1 - 1) = r.2.1 - 1 := wrap_id (by unfold ml at *; omega)
      have i1 : (J : Int) < (N : Int) := by omega
      have i2 : (0 : Int) ≤ (J : Int) := by omega
      have HIm := Lib.hid fun W => iso_image r.1 r.2.1 r.2.2 (r.2.1 - 1) W (by unfold big; unfold ml at *; omega) (by unfold big; unfold ml at *; omega)
      rw [imI_las r g1] at HIm
      clear hr g1 g2 g3 g4 hN1 hJ hJl
      go_upto_region 5 with fail
      generalize hw2 : wr.alloc (.cells #[.int .i64 r.1, .int .i64 r.2.1, .bool r.2.2] 48) = w2
      have HB2 : Hid (Below wr.heap.size wr w2) := hw2 ▸ below_alloc _ _
      have HC2 : Hid (Cel w2 wr.heap.size [.int .i64 r.1, .int .i64 r.2.1, .bool r.2.2]) := hw2 ▸ Cel.new _ _ _
      have HR2 := Lib.hid (HR.out.on HB2.out)
      have hgl : w.heap.size < wr.heap.size := (HR.out.lt _ rfl).2
      have HCF : Hid (∀ W, Off (fun y => y = w.heap.size) w2 W → W.cell? ⟨wr.heap.size, 0, none⟩ = some (.int .i64 r.1) ∧ W.cell? ⟨wr.heap.size, 1, none⟩ = some (.int .i64 r.2.1) ∧ W.cell? ⟨wr.heap.size, 2, none⟩ = some (.bool r.2.2)) := fun W ho => (HC2.out.off ho (by omega)).three
      have HRB : Hid (∀ W, Below w2.heap.size w2 W → (W.cell? ⟨w.heap.size, J * 3, none⟩ = some (.int .i64 (X[J]?.getD zR).1) ∧ W.cell? ⟨w.heap.size, J * 3 + 1, none⟩ = some (.int .i64 (X[J]?.getD zR).2.1) ∧ W.cell? ⟨w.heap.size, J * 3 + 2, none⟩ = some (.bool (X[J]?.getD zR).2.2)) ∧ W.frozen? ⟨w.heap.size, J * 3, none⟩ = false ∧ W.frozen? ⟨w.heap.size, J * 3 + 1, none⟩ = false ∧ W.frozen? ⟨w.heap.size, J * 3 + 2, none⟩ = false) := fun W hb => by
        have hw := HR2.out.on hb
        obtain ⟨s, hs⟩ := get_lt (L := X) (k := J) (by rw [HXN.out]; omega)
        rw [hs]
        exact ⟨⟨hw.cell cR_len hs (j := 0) rfl, hw.cell cR_len hs (j := 1) rfl, hw.cell cR_len hs (j := 2) rfl⟩, hw.warm HXN.out.symm _, hw.warm HXN.out.symm _, hw.warm HXN.out.symm _⟩
      clear hw2 d0 d1 d2
      obtain ⟨r0, r1, r2⟩ := HC2.out.three
      go_region_held3 (fun W' => W'.cell? ⟨wr.heap.size, 0, none⟩ = some (.int .i64 r.1) ∧ W'.cell? ⟨wr.heap.size, 1, none⟩ = some (.int .i64 r.2.1) ∧ W'.cell? ⟨wr.heap.size, 2, none⟩ = some (.bool r.2.2))
        (first | exact HCF.out _ (Off.refl _ _) | exact HCF.out _ (Off.refl _ _).drew | exact HCF.out _ ((Off.refl _ _).drew.then_below hb3) | exact HCF.out _ (((((Off.refl (fun y => y = w.heap.size) w2).drew.then_below hb3).set (p := ⟨w.heap.size, J * 3, none⟩) (Or.inl rfl) _).set (p := ⟨w.heap.size, J * 3 + 1, none⟩) (Or.inl rfl) _).set (p := ⟨w.heap.size, J * 3 + 2, none⟩) (Or.inl rfl) _))
        ((go_at_call 72; (refine (HIm.out _).mono ?_); rintro e w3 ⟨rfl, hb3⟩; (obtain ⟨⟨z0, z1, z2⟩, y0, y1, y2⟩ := HRB.out w3 (bstep (drew_below _) hb3))))
      all_goals
        have HRN : Hid (Row cR 3 TR w.heap.size (((w3.setCell ⟨w.heap.size, J * 3, none⟩ (.int .i64 (las r))).setCell ⟨w.heap.size, J * 3 + 1, none⟩ (.int .i64 r.2.1)).setCell ⟨w.heap.size, J * 3 + 2, none⟩ (.bool !r.2.2)) (.slice (some ⟨w.heap.size, 0, none⟩) N N) (X.set J (revR r))) := Row.put (HR2.out.on (bstep (drew_below _) hb3)) HXN.out.symm J (revR r) (by rw [HXN.out]; omega)
        have HBN : Hid (Below w.heap.size w (((w3.setCell ⟨w.heap.size, J * 3, none⟩ (.int .i64 (las r))).setCell ⟨w.heap.size, J * 3 + 1, none⟩ (.int .i64 r.2.1)).setCell ⟨w.heap.size, J * 3 + 2, none⟩ (.bool !r.2.2))) := (((bstep HB.out (bstep HB2.out (bstep (drew_below _) hb3))).setCell (p := ⟨w.heap.size, J * 3, none⟩) (Nat.le_refl _) _).setCell (p := ⟨w.heap.size, J * 3 + 1, none⟩) (Nat.le_refl _) _).setCell (p := ⟨w.heap.size, J * 3 + 2, none⟩) (Nat.le_refl _) _
        clear z0 z1 z2 y0 y1 y2 hb3 r0 r1 r2 j1 j2 i1 i2
        go_wp2_with fail
        go_roundw
        case rel => exact ⟨k + 1, X.set J (revR r), by omega, by go_num, HSt.out, HRN.out, HBN.out⟩
        case measure => simp [intOf]; omega
    · obtain rfl : k = N := by omega
      have hx := HX.out
      rw [← HN.out] at hx
      have HD := Lib.hid hx.done
      have HXN : Hid (X.length = k) := HX.out.1.trans HN.out
      clear hx
      go_wp2_with fail
      go_ret
      obtain ⟨A4, c4, e4, hle, -, hrd, -⟩ := HR.out.one cR_len
      cases e4
      refine ⟨_, _, ret_sl (by rw [← HD.out, HXN.out]), ⟨by rw [← HD.out]; exact hrd, by rw [← HD.out]; omega⟩, fun b off e => by cases e; exact Nat.le_refl _, HB.out⟩
set_option maxHeartbeats 800000 in
theorem iso_Reverse (L : List Rn) (A : Option Addr) (c : Nat) (w : World) (ha : Rns w A L) (hm : L.length ≤ 9223372036854775807) :
    Calls Try.prog 36 #[.slice A L.length c] w (Res (revL L) (eC L) w) := by
  have HA := Lib.hid ha
  clear ha
  go_enter Try.func36, Try.ntmps36
  go_wp2_with fail
  refine (iso_Check L A c w HA.out hm).mono ?_
  rintro e w1 ⟨rfl, hb1⟩
  have HB1 := Lib.hid hb1
  clear hb1
  by_cases hz : eC L = 0
  · have HV := Lib.hid (Vd.ofE hz)
    have HE : Hid (revL L = nfL (ex L).reverse) := if_pos hz
    rw [hz]
    have HZ := Lib.hid hz
    clear hz
    go_wp2_with fail
    refine (iso_reversed L A c w1 (HA.out.on HB1.out) HV.out.all (by have := HV.out.n; omega)).mono ?_
    rintro e w2 ⟨A2, c2, rfl, hr2, -, hb2⟩
    have HR2 := Lib.hid hr2
    have HB2 := Lib.hid (bstep HB1.out hb2)
    have HGv : Hid (∀ r ∈ L.reverse.map revR, gd r = true) := fun r hr => by
      obtain ⟨s, hs, rfl⟩ := List.mem_map.mp hr
      exact gd_rev (HV.out.all s (List.mem_reverse.mp hs))
    have HEx : Hid (ex (L.reverse.map revR) = (ex L).reverse) := ex_rev HV.out.pos
    have HWh := Lib.hid (iso_whole (L.reverse.map revR) A2 c2 w2 HR2.out.1 HGv.out (by rw [List.length_map, List.length_reverse]; have := HV.out.n; omega))
    obtain ⟨N2, hN2⟩ : ∃ N, (L.reverse.map revR).length = N := ⟨_, rfl⟩
    rw [hN2] at HWh ⊢
    clear hr2 hb2 hN2
    go_wp2_with fail
    refine HWh.out.mono ?_
    rintro e w3 ⟨A3, c3, rfl, hr3, hb3⟩
    rw [HEx.out] at hr3 ⊢
    have HR3 := Lib.hid hr3
    have HB3 := Lib.hid (bstep HB2.out hb3)
    clear hr3 hb3
    obtain ⟨N, hN⟩ : ∃ N, (nfL (ex L).reverse).length = N := ⟨_, rfl⟩
    rw [hN]
    have HN := Lib.hid hN
    clear hN
    go_wp2_with fail
    go_ret2
    exact ⟨A3, c3, ret_map (by rw [HE.out, HN.out]) HZ.out.symm, by rw [HE.out]; exact HR3.out, HB3.out⟩
  · obtain ⟨z1, z2⟩ := ne_tests hz
    have HE : Hid (revL L = []) := if_neg hz
    clear hz
    go_wp2_with fail
    go_ret2
    rw [HE.out]
    exact Res.err HB1.out
#print axioms iso_reversed
#print axioms iso_Reverse
end Go.Proofs.Ytnblpooimgpgoaa.Iso
