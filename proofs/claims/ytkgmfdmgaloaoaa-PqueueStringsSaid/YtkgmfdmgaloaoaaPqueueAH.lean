/- The walk of PqueueStrings. -/
import Derived.Test.YtkgmfdmgaloaoaaPqueueAE
namespace Go.Proofs.Ytkgmfdmgaloaoaa.Pqueue
/-- What leaves next. -/
theorem Pops.uncons {α : Type} {lt : α → α → Bool} (hs : Sw lt) {R o M : List α} {t x : α} {i : Nat} (h : Pops lt R (t :: o) M) (hf : IsF lt R i) (hx : R[i]? = some x) : x = t ∧ Pops lt (R.eraseIdx i) o M := by
  cases h with
  | pop hi hx' h' =>
    obtain rfl := hi.one hs hf
    rw [hx'] at hx
    exact ⟨(Option.some.inj hx).symm, h'⟩
end Go.Proofs.Ytkgmfdmgaloaoaa.Pqueue
namespace Go.Proofs.Ytkgmfdmgaloaoaa.PqueueS
open Go.ChangeShapes Go.WideShapes Go.RowKit Go.Lib Go.Proofs.Ytkgmfdmgaloaoaa.Pqueue
set_option linter.unusedVariables false
set_option maxRecDepth 100000

theorem row_rd {B : Nat} {w : World} {A : Option Addr} {n c : Nat} {L : List ByteArray} (h : Row cV 1 TV B w (.slice A n c) L) : Rd cV 1 w A L ∧ n = L.length ∧ n ≤ c ∧ c ≤ maxLen := by
  obtain ⟨A', c', e, h1, h2, h3, -⟩ := h.one cV_len
  cases e
  exact ⟨h3, rfl, h1, h2⟩
set_option maxHeartbeats 3200000 in
theorem walk_PqueueStrings (w : World) (A : Option Addr) (c : Nat) (L : List ByteArray) (hs : Rd cV 1 w A L) (hl : L.length ≤ c) (hc : c ≤ maxLen) :
    Calls Try.prog 9 #[.slice A L.length c] w fun e w' => e = .returned (.bool true) ∧ Below w.heap.size w w' := by
  have HS := Lib.hid hs
  have hm9 : L.length ≤ 9223372036854775807 := by unfold maxLen at hc; omega
  obtain ⟨N, hN⟩ : ∃ N, L.length = N := ⟨_, rfl⟩
  have HN := Lib.hid hN
  rw [hN] at hm9 ⊢
  clear hs hc hl hN
  rcases Nat.lt_or_ge 100 N with hg | hg
  · go_enter Try.func9, Try.ntmps9
    go_wp2_with fail
    refine (PqueueI.awake_true w).mono ?_
    rintro e w1 ⟨rfl, hb⟩
    have HB := Lib.hid hb
    clear hb
    go_wp2_with fail
    go_ret
    exact ⟨rfl, HB.out⟩
  · have hg' : ¬ 100 < N := by omega
    have HG := Lib.hid hg
    clear hg
    go_enter Try.func9, Try.ntmps9
    go_wp2_with fail
    refine (q_New 27 w).mono ?_
    intro e w1 hnew
    obtain ⟨rfl, hq1, hb1⟩ := hnew.open_ shortB
    have HQ1 := Lib.hid hq1
    have HB1 := Lib.hid hb1
    clear hnew hq1 hb1
    go_wp2_with fail
    go_loopw [4] (fun i wr => ∃ (k : Nat) (S : Nat → Prop), i = .int .i64 (k : Int) ∧ k ≤ N ∧ Qr wr w.heap.size S 27 shortB (L.take k) k ∧ (∀ j, S j → w.heap.size ≤ j) ∧ Below w.heap.size w wr) (fun i _ => N - (intOf i).toNat)
    case atStart => exact ⟨0, _, rfl, Nat.zero_le _, HQ1.out, fun j h => Nat.le_of_eq h.symm, HB1.out⟩
    case round =>
      obtain ⟨k, S, rfl, hk, hq, hS, hbel⟩ := hrel
      have HQ := Lib.hid hq
      have HSS := Lib.hid hS
      have HB := Lib.hid hbel
      have HK := Lib.hid hk
      clear hq hS hbel hk
      rcases Nat.lt_or_ge k N with hlt | hge
      · obtain ⟨x, hx⟩ := get_lt (L := L) (k := k) (by rw [HN.out]; exact hlt)
        obtain ⟨b, off, rfl, hb, h0⟩ := rd_cells (HS.out.on HB.out) hx
        have HX := Lib.hid (take_snoc_of hx)
        have HKL := Lib.hid hlt
        have i1 : (k : Int) < (N : Int) := by omega
        have i2 : (0 : Int) ≤ (k : Int) := by omega
        clear hx
        go_wp2_with fail
        refine (push_at HQ.out ord_shorter (by rw [List.length_take]; have := HG.out; omega) (by have := HG.out; have := HKL.out; omega) x).mono ?_
        rintro e w4 ⟨rfl, S', hq4, hs4, ho4⟩
        have HQ4 := Lib.hid hq4
        have HO4 := Lib.hid (Off.below ho4 (B := w.heap.size) HB.out.size HSS.out)
        have HS4 : Hid (∀ j, S' j → w.heap.size ≤ j) := fun j hj => by
          rcases hs4 j hj with h | h
          · exact HSS.out j h
          · have := HB.out.size; omega
        clear hq4 hs4 ho4
        go_wp2_with fail
        go_roundw
        case rel => exact ⟨k + 1, S', by go_num, HKL.out, by rw [HX.out]; exact HQ4.out, HS4.out, HB.out.trans HO4.out⟩
        case measure => simp [intOf]; omega
      · obtain rfl : k = N := by have := HK.out; omega
        have HQN : Hid (Qr wr w.heap.size S 27 shortB L k) := by have := HQ.out; rw [← HN.out, List.take_length, HN.out] at this; exact this
        have HBN := Lib.hid HB.out
        have HS0 := Lib.hid HSS.out
        clear HQ HB HSS
        obtain ⟨wo, rfl⟩ : ∃ wo : World, wo = wr := ⟨_, rfl⟩
        go_wp2_with fail
        have HSORT := Lib.hid (q_Sort (c := c) (HS.out.on HBN.out) (by rw [HN.out]; have := HG.out; omega) ord_shorter)
        rw [HN.out] at HSORT
        refine HSORT.out.mono ?_
        rintro e w5 ⟨T, A5, c5, hT, rfl, hr5, -, hp5, hb5⟩
        have HR5 := Lib.hid hr5
        have HP5 := Lib.hid (hp5 sw_short)
        have HT := Lib.hid hT
        have HB5 := Lib.hid (bstep HBN.out hb5)
        have HQ5 := Lib.hid (HQN.out.on hb5)
        have HDIS := Lib.hid (show ∀ b, (Value.slice A5 L.length c5).ownBlock = some b → ¬ S b from fun b hb h => by
          have h1 := (hr5.lt b hb).1
          have h2 := HQN.out.bnd b h
          omega)
        clear hr5 hp5 hT hb5 HSORT
        rw [HN.out] at HR5 HDIS ⊢
        have hnn : ((k : Int) != (k : Int)) = false := by simp
        have HSTB := Lib.hid (HP5.out.sorted sw_short).2
        go_wp2_with fail
        go_loopw [6] (fun i wr => ∃ (j : Nat) (R : List ByteArray), i = .int .i64 (j : Int) ∧ j ≤ k ∧ R.length + j = k ∧ Qr wr w.heap.size S 27 shortB R k ∧ Row cV 1 TV wo.heap.size wr (.slice A5 k c5) T ∧ Pops shortB R (T.drop j) [] ∧ Below w.heap.size w wr) (fun i _ => k - (intOf i).toNat)
        case atStart => exact ⟨0, L, rfl, Nat.zero_le _, HN.out, HQ5.out, HR5.out, by rw [List.drop_zero]; exact HP5.out, HB5.out⟩
        case round =>
          obtain ⟨j, R, rfl, hj, hlen, hq, hrow, hpops, hbel⟩ := hrel
          have HJ := Lib.hid hj
          have HLEN := Lib.hid hlen
          have HQ := Lib.hid hq
          have HROW := Lib.hid hrow
          have HPP := Lib.hid hpops
          have HB := Lib.hid hbel
          clear hj hlen hq hrow hpops hbel
          rcases Nat.lt_or_ge j k with hlt | hge
          · have HPOP := Lib.hid (pop_at HQ.out ord_shorter (by have := HLEN.out; have := HG.out; omega) (by have := HLEN.out; omega))
            obtain ⟨t, ht⟩ := get_lt (L := T) (k := j) (by rw [HT.out, HN.out]; exact hlt)
            have hdr : T.drop j = t :: T.drop (j + 1) := by
              have hl := glt ht
              rw [List.getElem?_eq_getElem hl] at ht
              rw [← Option.some.inj ht]
              exact List.drop_eq_getElem_cons hl
            have HDR := Lib.hid hdr
            have HTJ := Lib.hid ht
            have i1 : (j : Int) < (k : Int) := by omega
            have i2 : (0 : Int) ≤ (j : Int) := by omega
            clear ht hdr
            go_wp2_with fail
            refine HPOP.out.mono ?_
            rintro e w6 ⟨i, x, hx, hf, rfl, hq6, ho6⟩
            have hpp := HPP.out
            rw [HDR.out] at hpp
            obtain ⟨rfl, hpp2⟩ := Pops.uncons sw_short hpp (hf sw_short) hx
            have HPP2 := Lib.hid hpp2
            have HLN := Lib.hid (show (R.eraseIdx i).length + (j + 1) = k by have := erase_len hx; have := HLEN.out; omega)
            have HQ6 := Lib.hid hq6
            have HB6 := Lib.hid (HB.out.trans (Off.below ho6 (B := w.heap.size) HB.out.size HS0.out))
            have hrow6 : Row cV 1 TV wo.heap.size w6 (.slice A5 k c5) T := HROW.out.keep fun b hb => ho6.block b (HROW.out.lt b hb).2 (HDIS.out b hb)
            have HROW6 := Lib.hid hrow6
            obtain ⟨b, off, rfl, hb, h0⟩ := rd_cells (row_rd hrow6).1 HTJ.out
            clear hpp hpp2 hx hf hq6 ho6 hrow6 HPOP
            rcases Nat.eq_zero_or_pos j with hj0 | hj0
            · have hjj : decide (0 < j) = false := by simp; omega
              have hji : decide (0 < (j : Int)) = false := by simp; omega
              have hji2 : ¬ 0 < (j : Int) := by omega
              have HJ0 := Lib.hid hj0
              clear hj0
              go_wp2_with fail
              go_quiet (fail)
              go_wp2_with fail
              go_roundw
              case rel => exact ⟨j + 1, R.eraseIdx i, by go_num, hlt, HLN.out, HQ6.out.on (below_drewN (Below.refl _ _) _), HROW6.out.on (below_drewN (Below.refl _ _) _), HPP2.out, below_drewN HB6.out _⟩
              case measure => simp [intOf]; omega
            · obtain ⟨p, hp⟩ := get_lt (L := T) (k := j - 1) (by rw [HT.out, HN.out]; omega)
              obtain ⟨j1, hj1⟩ : ∃ j1, j = j1 + 1 := ⟨j - 1, by omega⟩
              have hp1 : T[j1]? = some p := by rw [show j1 = j - 1 by omega]; exact hp
              obtain ⟨b2, off2, eb, hb2, h1⟩ := rd_cells (row_rd HROW6.out).1 hp1
              cases eb
              have hlt2 : decide (x.size < p.size) = false := by
                have h := HSTB.out
                have e1 := HTJ.out
                have l1 := glt e1
                have l2 := glt hp1
                rw [List.getElem?_eq_getElem l1] at e1
                rw [List.getElem?_eq_getElem l2] at hp1
                have := List.pairwise_iff_getElem.mp h j1 j l2 l1 (by omega)
                rw [Option.some.inj e1, Option.some.inj hp1] at this
                exact this
              have hlt3 : ¬ x.size < p.size := by simpa using hlt2
              have hd : (j : Int) - 1 = (j1 : Int) := by omega
              have hjj : decide (0 < j) = true := by simp; omega
              have hji : decide (0 < (j : Int)) = true := by simp; omega
              have hw1 : IntKind.i64.wrap ((j : Int) - 1) = (j1 : Int) := by rw [wrap_id (by have := HG.out; omega)]; omega
              have i3 : (j1 : Int) < (k : Int) := by omega
              have i4 : (0 : Int) ≤ (j1 : Int) := by omega
              clear hp hp1 hj1
              go_wp2_with fail
              go_quiet (fail)
              go_wp2_with fail
              go_roundw
              case rel => exact ⟨j + 1, R.eraseIdx i, by go_num, hlt, HLN.out, HQ6.out.on (below_drewN (Below.refl _ _) _), HROW6.out.on (below_drewN (Below.refl _ _) _), HPP2.out, below_drewN HB6.out _⟩
              case measure => simp [intOf]; omega
          · have hR : R = [] := List.eq_nil_of_length_eq_zero (by have := HLEN.out; omega)
            have hjk : j = k := by have := HJ.out; omega
            clear hR
            subst hjk
            go_wp2_with fail
            refine (PqueueI.awake_true wr).mono ?_
            rintro e w8 ⟨rfl, hb8⟩
            have HB8 := Lib.hid (bstep HB.out hb8)
            clear hb8
            go_wp2_with fail
            go_ret
            exact ⟨rfl, HB8.out⟩
#print axioms walk_PqueueStrings
end Go.Proofs.Ytkgmfdmgaloaoaa.PqueueS
