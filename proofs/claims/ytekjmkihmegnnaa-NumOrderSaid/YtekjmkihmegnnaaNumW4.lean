/- The law NumOrder: the walk. -/
import Derived.Test.YtekjmkihmegnnaaNumW2
import Derived.OwnWalk
import Derived.Laws.OwnMore
namespace Go.Proofs.Ytekjmkihmegnnaa
open Go Go.ChangeShapes Go.WideShapes Go.RowKit
set_option linter.unusedVariables false

theorem info_int4 : (Try.prog.info? 3).map (fun i => (i.zero, i.size, i.bytes)) = some (some (.int .i64 0), 1, 8) := by kernel_rfl
theorem sum_two (a b : Int) : sumV [a, b] = rngV a b (a + b) ∧ sumE [a, b] = rngE a b (a + b) := by
  have ht : tot [a, b] = a + b := by simp [tot]
  by_cases h : InR a ∧ InR b
  · have ha : allIn [a, b] = true := by simp [allIn, inB, h.1, h.2]
    rw [sumV_all (by simp) ha, sumE_all (by simp) ha, ht]
    exact ⟨(if_pos h).symm, (if_pos h).symm⟩
  · have ha : ¬ allIn [a, b] = true := by
      simp [allIn, inB]
      intro h1 h2; exact h ⟨h1, h2⟩
    rw [sumV_out (by simp) ha, sumE_out (by simp) ha]
    exact ⟨(if_neg h).symm, (if_neg h).symm⟩
theorem own_holds {w : World} {base : Nat} {e : TypeId} {v : Value} {zs : List Int} (h : w.ownsRow base e 1 v zs.length (zs.map (Value.int .i64))) :
    ∃ A c, v = .slice A zs.length c ∧ Holds w w.heap.size A zs := by
  rcases h.2 with ⟨hv, hn⟩ | ⟨g, cap, cur, hv, hb, hh, hnc, hcm, hcs, htake⟩
  · refine ⟨none, 0, by rw [hv, hn], ?_⟩
    have : zs = [] := List.eq_nil_of_length_eq_zero hn
    subst this
    intro k z hz; cases hz
  · refine ⟨some ⟨g, 0, none⟩, cap, hv, ?_⟩
    intro k z hz
    have hg : g < w.heap.size := by
      rcases Nat.lt_or_ge g w.heap.size with h1 | h1
      · exact h1
      · rw [Array.getElem?_eq_none h1] at hh; cases hh
    have hk : k < zs.length := (List.getElem?_eq_some_iff.1 hz).1
    subst hv
    refine ⟨g, 0, rfl, hg, ?_⟩
    rw [Nat.zero_add, h.cellAt k (by omega)]
    simp [hz]
theorem rev_step {zs : List Int} {j : Nat} {z : Int} (h : zs[j]? = some z) : (zs.drop j).reverse = (zs.drop (j + 1)).reverse ++ [z] := by
  have hj : j < zs.length := (List.getElem?_eq_some_iff.1 h).1
  have e : zs.drop j = z :: zs.drop (j + 1) := by
    rw [List.drop_eq_getElem_cons hj]
    congr 1
    have := List.getElem?_eq_getElem hj
    rw [this] at h; injection h
  rw [e, List.reverse_cons]

set_option maxHeartbeats 400000 in
theorem walk_NumOrder (w : World) (a0 : Option Addr) (n0 c0 : Nat) (z0 : List Int) (w0 : InInts .i64 w a0 n0 c0 z0) (a1 : Int) (w1 : (Lit.int .i64 a1).wf = true) (a2 : Int) (w2 : (Lit.int .i64 a2).wf = true) :
    Calls Try.prog 8 #[.slice a0 n0 c0, .int .i64 a1, .int .i64 a2] w fun e w' => e = .returned (.bool true) ∧ Below w.heap.size w w' := by
  obtain rfl : n0 = z0.length := w0.1
  have hl := short_of w0
  have H0 := Lib.hid (holds_of w0)
  clear w0 w1 w2
  by_cases h : 200 < (z0.length : Int)
  · go_enter Try.func8, Try.ntmps8
    go_wp2_with fail
    refine (awake_any _).mono ?_
    rintro e w2 ⟨rfl, hb2⟩
    go_wp2_with fail
    go_ret
    exact ⟨rfl, hb2⟩
  · have hd : decide (200 < (z0.length : Int)) = false := decide_eq_false h
    have h200 : z0.length ≤ 200 := by omega
    clear h
    obtain ⟨i0, hi, hz0, hz1, hz2⟩ := info_parts info_int4
    go_enter Try.func8, Try.ntmps8
    go_wp2_with fail
    go_loopw [7, 8] (fun v i wr => ∃ j : Nat, j ≤ z0.length ∧ i = .int .i64 ((j : Int) - 1) ∧ wr.ownsRow w.heap.size 3 1 v (z0.drop j).reverse.length ((z0.drop j).reverse.map (Value.int .i64)) ∧ Below w.heap.size w wr) (fun _ i _ => (intOf i + 1).toNat)
    case atStart => exact ⟨z0.length, Nat.le_refl _, rfl, by rw [List.drop_length]; exact World.ownsRow_nil _ _ _ _, Below.refl _ _⟩
    case round =>
      obtain ⟨j, hj, rfl, hown, hbel⟩ := hrel
      have HO := Lib.hid hown
      have HB := Lib.hid hbel
      have hbs := hbel.size
      clear hown hbel
      cases j with
      | zero =>
        rw [List.drop_zero] at HO
        rw [show ((0 : Nat) : Int) - 1 = -1 from rfl]
        obtain ⟨A, c, hv, hH⟩ := own_holds HO.out
        rw [hv]
        clear hv
        have e1 := sumV_reverse z0
        have e2 := sumE_reverse z0
        rw [List.length_reverse]
        have hs2 : ∀ W, Holds W W.heap.size A z0.reverse → Calls Try.prog 19 #[.slice A z0.length c] W fun e w' => e = .returned (.tuple #[.int .i64 (sumV z0), .int .i64 (sumE z0)]) ∧ Below W.heap.size W w' := fun W hW => by
          have h := num_sum z0.reverse A c W hW (by simpa using hl)
          rw [List.length_reverse, e1, e2] at h; exact h
        have S2 := Lib.hid hs2
        have HH := Lib.hid hH
        have et := sum_two a1 a2
        have ET := Lib.hid et
        clear e1 e2 hs2 hH et
        go_wp2_with fail
        refine (num_sum _ _ _ _ ((H0.out.below HB.out).more hbs) hl).mono ?_
        rintro e w1 ⟨rfl, hb1⟩
        go_wp2_with fail
        refine (S2.out _ ((HH.out.below hb1).more hb1.size)).mono ?_
        rintro e w2 ⟨rfl, hb2⟩
        go_wp2_with fail
        have hs3 := num_sum [a1, a2] (some ⟨w2.heap.size, 0, none⟩) 2 (w2.alloc (.cells #[.int .i64 a1, .int .i64 a2] 3)) (by have h := holds_new w2 3 [a1, a2]; simpa using h) (by simp)
        rw [ET.out.1, ET.out.2] at hs3
        refine Calls.mono hs3 ?_
        rintro e w3 ⟨rfl, hb3⟩
        go_wp2_with fail
        refine (num_add _ _ _).mono ?_
        rintro e w' ⟨rfl, rfl⟩
        go_wp2_with fail
        refine (awake_any _).mono ?_
        rintro e w4 ⟨rfl, hb4⟩
        go_wp2_with fail
        go_ret
        have s1 := hb1.size
        have s2 := hb2.size
        have s3 := hb3.size
        simp at s3
        exact ⟨rfl, ((((HB.out.trans (hb1.mono (by omega))).trans (hb2.mono (by omega))).alloc (by omega) _).trans (hb3.mono (by simp; omega))).trans (hb4.mono (by omega))⟩
      | succ i =>
        have hi' : ((i + 1 : Nat) : Int) - 1 = i := by omega
        rw [hi']; clear hi'
        obtain ⟨z, hz⟩ : ∃ z, z0[i]? = some z := ⟨_, List.getElem?_eq_getElem (by omega)⟩
        obtain ⟨b, off, rfl, hb, hcell⟩ := (H0.out.below HB.out) i z hz
        have HZ := Lib.hid hz
        clear hz
        have hil : (i : Int) < z0.length := by omega
        go_wp2_with (at_builtin; refine wpList_append_own _ rfl _ _ 27 rfl w.heap.size 3 i0 (.int .i64 0) 1 8 Try.underlying27 hi hz0 hz1 hz2 rfl (by decide) _ _ _ rfl (HO.out.alloc _) ⟨wr.heap.size, 0, none⟩ 1 1 [.int .i64 z] rfl rfl ?c1 ?c2 ?c3 ?c4 ?c5 ?_)
        case c1 =>
          intro j u hj
          match j, hj with
          | 0, hj => simp at hj; subst hj; simp [Addr.add]
        case c2 => intro u hu; simp at hu; subst hu; rfl
        case c3 => have := List.length_drop (i := i + 1) (l := z0); simp only [List.length_reverse]; unfold maxLen; omega
        case c4 => have := List.length_drop (i := i + 1) (l := z0); simp only [List.length_reverse]; omega
        case c5 => simp; omega
        intro v' w1 hown' hgrow _
        have hB1 := ((HB.out.alloc hbs (.cells #[.int .i64 z] 3)).grown hgrow (by simp; omega) (by
          intro k hk
          rcases HO.out.2 with ⟨hv, _⟩ | ⟨g, cap, cur, hv, hb, _⟩
          · rw [hv] at hk; cases hk
          · rw [hv] at hk; cases hk; exact hb))
        have hrel2 : w1.ownsRow w.heap.size 3 1 v' (z0.drop i).reverse.length ((z0.drop i).reverse.map (Value.int .i64)) := by
          rw [rev_step HZ.out, List.length_append, List.map_append, List.map_reverse, List.map_drop, List.length_reverse, List.length_drop]
          exact hown'
        have HR := Lib.hid hrel2
        have HB1 := Lib.hid hB1
        clear hown' hgrow hrel2 hB1
        go_wp2_with fail
        go_roundw
        case rel => exact ⟨i, by omega, by go_num, HR.out, HB1.out⟩
        case measure => simp [intOf]
#print axioms walk_NumOrder
end Go.Proofs.Ytekjmkihmegnnaa
