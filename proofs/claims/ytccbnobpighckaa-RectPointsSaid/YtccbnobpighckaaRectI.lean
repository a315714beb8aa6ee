/- Rest, Disjoint, Same, Spans of the reference. -/
import Derived.Test.YtccbnobpighckaaRectH
namespace Go.Proofs.Ytccbnobpighckaa.Rect
open Go.ChangeShapes Go.WideShapes Go.RowKit Go.Lib Go.Proofs.Ytccbnobpighckaa.Rw
set_option linter.unusedVariables false
set_option maxRecDepth 100000

set_option maxHeartbeats 1600000 in
theorem rr_Rest (L : List Rc) (A : Option Addr) (c : Nat) (r : Rc) (w : World) (ha : Rcs w A L) (hm : L.length ≤ 9223372036854775807) :
    Calls Try.prog 23 #[agQ r, .slice A L.length c] w fun e w' => e = .returned (.tuple #[.int .i64 (rsV r L), .int .i64 (rsE r L)]) ∧ Below w.heap.size w w' := by
  have HA := Lib.hid ha
  have HClp := Lib.hid fun (W : World) (h : Rcs W A L) => rr_Clip L A c r W h hm
  have HAr := Lib.hid fun W => rr_Area r W
  obtain ⟨E, hE⟩ : ∃ E, rsE r L = E := ⟨_, rfl⟩
  obtain ⟨V, hV⟩ : ∃ V, rsV r L = V := ⟨_, rfl⟩
  obtain ⟨T, hT⟩ : ∃ T, clV r L = T := ⟨_, rfl⟩
  obtain ⟨n, hn⟩ : ∃ n, n = T.length := ⟨_, rfl⟩
  rw [hT, hE] at HClp
  rw [hE, hV]
  unfold LstR at HClp
  rw [← hn] at HClp
  have hTl : T.length ≤ L.length := by
    rw [← hT]; unfold clV
    split
    · exact clp_len r L
    · simp
  have HCv := Lib.hid fun (A : Option Addr) (c : Nat) (W : World) (h : Rcs W A T) => rr_cover T A c n hn W h (by omega)
  by_cases hz : E = 0
  · subst hz
    obtain ⟨hr, hl⟩ := rsE_of hE
    have hv : siz r - cv T = V := by
      rw [← hV, ← hT]; unfold rsV clV
      rw [if_pos hE, if_pos hE, rs_is hr]
    have hvl := rs_lim hr L
    have hrv : rs r L = V := by rw [← hV]; unfold rsV; rw [if_pos hE]
    rw [hrv] at hvl
    have wV : IntKind.i64.wrap V = V := wrap_id ⟨Int.le_trans (by decide) hvl.1, Int.le_trans hvl.2 (by decide)⟩
    obtain ⟨X, hX⟩ : ∃ X, siz r = X := ⟨_, rfl⟩
    obtain ⟨Y, hY⟩ : ∃ Y, cv T = Y := ⟨_, rfl⟩
    have he : arV r = X := by unfold arV; rw [if_pos (ckE_iff.mpr hr), hX]
    rw [he, ckE_iff.mpr hr] at HAr
    rw [hX] at hv
    rw [hY] at HCv hv
    clear ha hE hV hT hn hTl hr hl hvl hrv hX hY he
    go_enter Try.func23, Try.ntmps23
    go_upto_region 1 with fail
    obtain ⟨w0, hw0⟩ : ∃ W, w.alloc (.cells #[.int .i64 r.1, .int .i64 r.2.1, .int .i64 r.2.2.1, .int .i64 r.2.2.2] 23) = W := ⟨_, rfl⟩
    have C0 : Hid (Cel w0 w.heap.size (cQ r)) := hw0 ▸ Cel.new w (cQ r) _
    have B0 : Hid (Below w.heap.size w w0) := hw0 ▸ below_alloc _ _
    rw [hw0]
    clear hw0
    obtain ⟨x0, x1, x2, x3⟩ := cel4 C0.out
    go_wp2_with fail
    refine (HClp.out w0 (HA.out.on B0.out)).mono ?_
    rintro e w1 ⟨A1, c1, rfl, -, hr1, hb⟩
    have B1 := Lib.hid (bstep B0.out hb)
    have C1 := Lib.hid (C0.out.on hb)
    have R1 := Lib.hid hr1
    clear hb hr1 x0 x1 x2 x3
    obtain ⟨x0, x1, x2, x3⟩ := cel4 C1.out
    go_wp2_with fail
    refine (HAr.out w1).mono ?_
    rintro e w2 ⟨rfl, hb⟩
    have B2 := Lib.hid (bstep B1.out hb)
    have R2 := Lib.hid (R1.out.on hb)
    clear hb x0 x1 x2 x3
    go_wp2_with fail
    refine (HCv.out A1 c1 w2 R2.out).mono ?_
    rintro e w3 ⟨rfl, hb⟩
    have B3 := Lib.hid (bstep B2.out hb)
    clear hb
    go_wp2_with fail
    go_ret2
    exact ⟨rfl, B3.out⟩
  · obtain ⟨z1, z2⟩ := ne_tests hz
    have hv : V = 0 := by rw [← hV]; unfold rsV; rw [hE, if_neg hz]
    subst hv
    clear ha hE hV hT hn hTl hz
    go_enter Try.func23, Try.ntmps23
    go_upto_region 1 with fail
    obtain ⟨w0, hw0⟩ : ∃ W, w.alloc (.cells #[.int .i64 r.1, .int .i64 r.2.1, .int .i64 r.2.2.1, .int .i64 r.2.2.2] 23) = W := ⟨_, rfl⟩
    have C0 : Hid (Cel w0 w.heap.size (cQ r)) := hw0 ▸ Cel.new w (cQ r) _
    have B0 : Hid (Below w.heap.size w w0) := hw0 ▸ below_alloc _ _
    rw [hw0]
    clear hw0
    obtain ⟨x0, x1, x2, x3⟩ := cel4 C0.out
    go_wp2_with fail
    refine (HClp.out w0 (HA.out.on B0.out)).mono ?_
    rintro e w1 ⟨A1, c1, rfl, -, hr1, hb⟩
    have B1 := Lib.hid (bstep B0.out hb)
    clear hb hr1
    go_wp2_with fail
    go_ret2
    exact ⟨rfl, B1.out⟩

set_option maxHeartbeats 800000 in
theorem rr_Same (L M : List Rc) (A B : Option Addr) (c d n n' : Nat) (hn : n = L.length) (hn' : n' = M.length) (w : World) (ha : Rcs w A L) (hb : Rcs w B M) (hm : n ≤ 9223372036854775807) (hm2 : n' ≤ 9223372036854775807) :
    Calls Try.prog 26 #[.slice A n c, .slice B n' d] w fun e w' => e = .returned (.bool (decide (L = M))) ∧ Below w.heap.size w w' := by
  have HA := Lib.hid ha
  have HB := Lib.hid hb
  have HN := Lib.hid hn
  have HN' := Lib.hid hn'
  clear ha hb
  by_cases hl : n = n'
  · subst hl
    have HL : Hid (L.length = M.length) := hn.symm.trans hn'
    have hl' : ((n : Int) == (n : Int)) = true := by simp
    have hl2 : ((n : Int) != (n : Int)) = false := by simp
    clear hn hn'
    go_enter Try.func26, Try.ntmps26
    go_wp2_with fail
    go_loopw [5] (fun i wr => ∃ k : Nat, k ≤ n ∧ i = .int .i64 k ∧ (∀ (j : Nat) (s t : Rc), j < k → L[j]? = some s → M[j]? = some t → s = t) ∧ Below w.heap.size w wr) (fun i _ => n - (RowKit.intOf i).toNat)
    case atStart => exact ⟨0, Nat.zero_le _, rfl, fun j s t h => absurd h (by omega), Below.refl _ _⟩
    case round =>
      obtain ⟨k, hk, rfl, hv, hbel⟩ := hrel
      have HV := Lib.hid hv
      have HW := Lib.hid hbel
      clear hv hbel
      rcases Nat.lt_or_ge k n with hlt | hge
      · obtain ⟨s, hs⟩ := get_lt (L := L) (k := k) (by have := HN.out; omega)
        obtain ⟨t, ht⟩ := get_lt (L := M) (k := k) (by have := HN'.out; omega)
        obtain ⟨b1, off1, hA0, hb1, h0, h1, h2, h3⟩ := rd_at (HA.out.on HW.out) hs
        obtain ⟨b2, off2, hB0, hb2, h4, h5, h6, h7⟩ := rd_at (HB.out.on HW.out) ht
        subst hA0
        subst hB0
        have HS := Lib.hid hs
        have HT := Lib.hid ht
        have i1 : (k : Int) < (n : Int) := by omega
        have i2 : (0 : Int) ≤ (k : Int) := by omega
        clear hs ht
        have hq := fun W => eq_run .neq (Or.inr rfl) s t W
        by_cases e : s = t
        · have hq2 : ∀ W, (binOp .neq 23 (agQ s) (agQ t)).run Try.prog W = .ok (.bool false) W := fun W => by rw [hq W, decide_eq_true e]; rfl
          have E := Lib.hid e
          clear hq e
          go_wp2_with fail
          go_quiet (fail)
          go_wp2_with fail
          go_roundw
          case rel =>
            refine ⟨k + 1, by omega, by go_num, ?_, below_drewN HW.out _⟩
            intro j u v hj hu hv
            rcases Nat.lt_or_eq_of_le (Nat.le_of_lt_succ hj) with h | h
            · exact HV.out j u v h hu hv
            · subst h
              have e1 := HS.out
              have e2 := HT.out
              rw [hu] at e1; rw [hv] at e2; cases e1; cases e2; exact E.out
          case measure => simp [RowKit.intOf]; omega
        · have hq2 : ∀ W, (binOp .neq 23 (agQ s) (agQ t)).run Try.prog W = .ok (.bool true) W := fun W => by rw [hq W, decide_eq_false e]; rfl
          have E : Hid (decide (L = M) = false) := decide_eq_false fun h => by
            subst h
            have e1 := HS.out
            rw [HT.out] at e1; exact e (Option.some.inj e1).symm
          clear hq e
          go_wp2_with fail
          go_quiet (fail)
          go_wp2_with fail
          go_ret
          exact ⟨ret_bool E.out.symm, below_drewN HW.out _⟩
      · obtain rfl : k = n := by omega
        have E : Hid (decide (L = M) = true) := decide_eq_true (by
          apply List.ext_getElem HL.out
          intro j h1 h2
          exact HV.out j _ _ (by have := HN.out; omega) (List.getElem?_eq_getElem h1) (List.getElem?_eq_getElem h2))
        go_wp2_with fail
        go_ret
        exact ⟨ret_bool E.out.symm, HW.out⟩
  · have hl' : ((n : Int) == (n' : Int)) = false := beq_false_of_ne (by omega)
    have hl2 : ((n : Int) != (n' : Int)) = true := by simp; omega
    have E : Hid (decide (L = M) = false) := decide_eq_false fun h => hl (by rw [hn, hn', h])
    clear hl hn hn'
    go_enter Try.func26, Try.ntmps26
    go_wp2_with fail
    go_ret
    exact ⟨ret_bool E.out.symm, Below.refl _ _⟩
#print axioms rr_Rest
#print axioms rr_Same
end Go.Proofs.Ytccbnobpighckaa.Rect
