/- The walk of PqueueStable. -/
import Derived.Test.YtkgmfdmgaloaoaaPqueueAE
namespace Go.Proofs.Ytkgmfdmgaloaoaa.PqueueI
open Go.ChangeShapes Go.WideShapes Go.RowKit Go.Lib Go.Proofs.Ytkgmfdmgaloaoaa.Pqueue
set_option linter.unusedVariables false
set_option maxRecDepth 100000

/-- What leaves next. -/
theorem pops_next {lt : It → It → Bool} (hs : Sw lt) {R o M : List It} {t x : It} {i : Nat} (h : Pops lt R (t :: o) M) (hf : IsF lt R i) (hx : R[i]? = some x) : x = t ∧ Pops lt (R.eraseIdx i) o M := by
  cases h with
  | pop hi hx' h' =>
    obtain rfl := hi.one hs hf
    rw [hx'] at hx
    exact ⟨(Option.some.inj hx).symm, h'⟩
/-- The keys with their places. -/
def tg (l : List Int) : List It := (List.range l.length).map fun i => (l.getD i 0, (i : Int))
theorem tg_len (l : List Int) : (tg l).length = l.length := by simp [tg]
theorem tg_snoc (l : List Int) (z : Int) : tg (l ++ [z]) = tg l ++ [(z, (l.length : Int))] := by
  unfold tg
  rw [List.length_append, List.length_singleton, List.range_succ, List.map_append, List.map_singleton]
  congr 1
  · apply List.map_congr_left
    intro i hi
    have hi' := List.mem_range.mp hi
    rw [List.getD_eq_getElem?_getD, List.getD_eq_getElem?_getD, List.getElem?_append_left hi']
  · rw [List.getD_eq_getElem?_getD, List.getElem?_append_right (Nat.le_refl _), Nat.sub_self]
    rfl
theorem tg_asc (l : List Int) : (tg l).Pairwise fun x y => x.2 < y.2 := by
  unfold tg
  rw [List.pairwise_map]
  exact List.pairwise_lt_range.imp fun h => by simpa using h
theorem pair_at {P : It → It → Prop} {T : List It} (h : T.Pairwise P) {i j : Nat} {x y : It} (hi : T[i]? = some x) (hj : T[j]? = some y) (hij : i < j) : P x y := by
  have l1 := glt hi
  have l2 := glt hj
  rw [List.getElem?_eq_getElem l1] at hi
  rw [List.getElem?_eq_getElem l2] at hj
  rw [← Option.some.inj hi, ← Option.some.inj hj]
  exact List.pairwise_iff_getElem.mp h i j l1 l2 hij

set_option maxHeartbeats 6400000 in
theorem walk_PqueueStable (w : World) (m : Int) (A : Option Addr) (n0 c : Nat) (zs : List Int) (hz : InInts .i64 w A n0 c zs) :
    Calls Try.prog 5 #[.int .i64 m, .slice A n0 c] w fun e w' => e = .returned (.bool true) ∧ Below w.heap.size w w' := by
  obtain ⟨hn0, hz1, hz2, -, hz4⟩ := hz
  have HZ := Lib.hid hz4
  have hm9 : n0 ≤ 9223372036854775807 := by unfold maxLen at hz2; omega
  obtain ⟨N, rfl⟩ : ∃ N, N = n0 := ⟨_, rfl⟩
  have HN := Lib.hid hn0.symm
  clear hn0 hz1 hz2 hz4
  rcases Nat.lt_or_ge 200 N with hg | hg
  · go_enter Try.func5, Try.ntmps5
    go_wp2_with fail
    refine (awake_true w).mono ?_
    rintro e w1 ⟨rfl, hb⟩
    have HB := Lib.hid hb
    clear hb
    go_wp2_with fail
    go_ret
    exact ⟨rfl, HB.out⟩
  · have hg' : ¬ 200 < N := by omega
    have HG := Lib.hid hg
    clear hg
    go_enter Try.func5, Try.ntmps5
    go_wp2_with fail
    refine (order_at m w).mono ?_
    rintro e w0 ⟨n, rfl, ho, rfl⟩
    have HO := Lib.hid ho
    clear ho
    go_wp2_with fail
    refine (q_New n w).mono ?_
    intro e w1 hnew
    obtain ⟨rfl, hq1, hb1⟩ := hnew.open_ (lessM m)
    have HQ1 := Lib.hid hq1
    have HB1 := Lib.hid hb1
    clear hnew hq1 hb1
    go_wp2_with fail
    go_loopw [7, 8] (fun v i wr => ∃ (k : Nat) (S : Nat → Prop) (A' : Option Addr) (c' : Nat), i = .int .i64 (k : Int) ∧ k ≤ N ∧ v = .slice A' k c' ∧ Row cV 2 TV w.heap.size wr (.slice A' k c') (tg (zs.take k)) ∧ Qr wr w.heap.size S n (lessM m) (tg (zs.take k)) k ∧ (∀ b, (Value.slice A' k c').ownBlock = some b → ¬ S b) ∧ (∀ j, S j → w.heap.size ≤ j) ∧ Below w.heap.size w wr) (fun _ i _ => N - (intOf i).toNat)
    case atStart => exact ⟨0, _, none, 0, rfl, Nat.zero_le _, rfl, Row.nil _ _ _ _ _, HQ1.out, (fun b e => by cases e), fun j h => Nat.le_of_eq h.symm, HB1.out⟩
    case round =>
      obtain ⟨k, S, A', c', rfl, hk, rfl, hrow, hq, hdis, hS, hbel⟩ := hrel
      have HROW := Lib.hid hrow
      have HQ := Lib.hid hq
      have HD := Lib.hid hdis
      have HSS := Lib.hid hS
      have HB := Lib.hid hbel
      have HK := Lib.hid hk
      clear hrow hq hdis hS hbel hk
      rcases Nat.lt_or_ge k N with hlt | hge
      · obtain ⟨z, hz⟩ := get_lt (L := zs) (k := k) (by rw [HN.out]; exact hlt)
        obtain ⟨b, off, rfl, hb, h0'⟩ := HZ.out k z hz
        have h0 : wr.cell? ⟨b, off + k, none⟩ = some (.int .i64 z) := (HB.out.cell (p := ⟨b, off + k, none⟩) hb).trans h0'
        have HX := Lib.hid (show tg (zs.take (k + 1)) = tg (zs.take k) ++ [(z, (k : Int))] by
          rw [take_snoc_of hz, tg_snoc, List.length_take, Nat.min_eq_left (by rw [HN.out]; omega)])
        have HTL := Lib.hid (show (tg (zs.take k)).length = k by rw [tg_len, List.length_take, HN.out]; omega)
        have HKL := Lib.hid hlt
        have i1 : (k : Int) < (N : Int) := by omega
        have i2 : (0 : Int) ≤ (k : Int) := by omega
        clear hz h0'
        go_wp2_with fail
        generalize hw3 : wr.alloc (.cells #[.int .i64 z, .int .i64 (k : Int)] TV) = w3
        have HB3 : Hid (Below wr.heap.size wr w3) := hw3 ▸ below_alloc _ _
        have HA3 := Lib.hid (show w3.heap[wr.heap.size]? = some (.cells #[.int .i64 z, .int .i64 (k : Int)] TV (0, 0)) by rw [← hw3]; exact heap_alloc_new _ _)
        clear hw3
        have HSZ3 := Lib.hid HB3.out.size
        refine (push_at (HQ.out.on HB3.out) HO.out (by rw [HTL.out]; have := HG.out; omega) (by have := HG.out; have := HKL.out; omega) (z, (k : Int))).mono ?_
        rintro e w4 ⟨rfl, S', hq4, hs4, ho4⟩
        have HQ4 := Lib.hid hq4
        have HO4 := Lib.hid (Off.below ho4 (B := w.heap.size) (by have := HB.out.size; have := HSZ3.out; omega) HSS.out)
        have HS4 : Hid (∀ j, S' j → w.heap.size ≤ j) := fun j hj => by
          rcases hs4 j hj with h | h
          · exact HSS.out j h
          · have := HB.out.size; have := HSZ3.out; omega
        have HROW4 := Lib.hid (show Row cV 2 TV w.heap.size w4 (.slice A' k c') (tg (zs.take k)) from (HROW.out.on HB3.out).keep fun j hj => ho4.block j (by have := (HROW.out.lt j hj).2; have := HSZ3.out; omega) (HD.out j hj))
        have HD4 := Lib.hid (show ∀ b, (Value.slice A' k c').ownBlock = some b → ¬ S' b from fun j hj h => by
          rcases hs4 j h with h1 | h1
          · exact HD.out j hj h1
          · have := (HROW.out.lt j hj).2; have := HSZ3.out; omega)
        have k4 := (ho4.block _ (Array.getElem?_eq_some_iff.mp HA3.out).1 fun h => Nat.lt_irrefl _ (HQ.out.bnd _ h)).trans HA3.out
        have z0 : w4.cell? ⟨wr.heap.size, 0, none⟩ = some (.int .i64 z) := by rw [cell_of_row _ _ _ _ _ _ k4]; rfl
        have z1 : w4.cell? ⟨wr.heap.size, 1, none⟩ = some (.int .i64 (k : Int)) := by rw [cell_of_row _ _ _ _ _ _ k4]; rfl
        have HB4 := Lib.hid ((HB.out.trans (HB3.out.mono HB.out.size)).trans HO4.out)
        clear hq4 hs4 ho4 k4
        go_wp2_with (at_builtin; refine append_rows kdV rfl _ _ rfl (.slice A' k c') (tg (zs.take k)) rfl (HROW4.out.on (below_alloc _ _)) (some ⟨w4.heap.size, 0, none⟩) 1 1 [(z, (k : Int))] rfl rfl (rd_one cV_len (heap_alloc_new _ _)) (by rw [HTL.out]; have := HKL.out; have := HG.out; omega) (by have := HB4.out.size; simp; omega) ?_; intro A5 n5 c5 w5 hn5 hr5 hg5 hat5; have HN5 := Lib.hid hn5; clear hn5; refine Hid.out ?_)
        obtain rfl : n5 = k + 1 := by have := HN5.out; rw [HTL.out] at this; exact this
        have HR5 := Lib.hid hr5
        have HQ4W := HQ4.out.on (below_alloc w4 (.cells #[.int .i64 z, .int .i64 (k : Int)] TV))
        have HQ5 := Lib.hid (HQ4W.keep hg5.size fun b hb => hg5.block b (HQ4W.bnd b hb) fun e => HD4.out b e.symm hb)
        have HD5 : Hid (∀ b, (Value.slice A5 (k + 1) c5).ownBlock = some b → ¬ S' b) := Lib.hid fun b hb h => by
          rcases hat5 with h1 | h1
          · rw [h1] at hb; exact HD4.out b hb h
          · rw [h1] at hb; cases hb; exact Nat.lt_irrefl _ (HQ4W.bnd _ h)
        have HB5 := Lib.hid (HB4.out.trans (Below.trans ((below_alloc w4 (.cells #[.int .i64 z, .int .i64 (k : Int)] TV)).mono HB4.out.size) (Row.below (HROW4.out.on (below_alloc _ _)) hg5 (by have := HB4.out.size; simp; omega))))
        clear hr5 hg5 hat5 HQ4W z0 z1
        refine Lib.hid ?_
        go_wp2_with fail
        go_roundw
        case rel => exact ⟨k + 1, S', A5, c5, by go_num, HKL.out, rfl, by rw [HX.out]; exact HR5.out, by rw [HX.out]; exact HQ5.out, HD5.out, HS4.out, HB5.out⟩
        case measure => simp [intOf]; omega
      · obtain rfl : k = N := by have := HK.out; omega
        have htk : zs.take k = zs := List.take_of_length_le (by rw [HN.out]; omega)
        rw [htk] at HROW HQ
        have HL := Lib.hid (show (tg zs).length = k by rw [tg_len]; exact HN.out)
        clear htk
        obtain ⟨L, hL⟩ : ∃ L, tg zs = L := ⟨_, rfl⟩
        have HASC := Lib.hid (tg_asc zs)
        rw [hL] at HROW HQ HL HASC
        clear hL
        obtain ⟨wo, rfl⟩ : ∃ wo : World, wo = wr := ⟨_, rfl⟩
        go_wp2_with fail
        have HSORT := Lib.hid (q_Sort (row_rd HROW.out).1 (c := c') (by rw [HL.out]; have := HG.out; omega) HO.out)
        rw [HL.out] at HSORT
        refine HSORT.out.mono ?_
        rintro e w5 ⟨T, A5, c5, hT, rfl, hr5, -, hp5, hb5⟩
        have HR5 := Lib.hid hr5
        have HP5 := Lib.hid (hp5 (sw_lessM m))
        have HT := Lib.hid (hT.trans HL.out)
        have HB5 := Lib.hid (bstep HB.out hb5)
        have HQ5 := Lib.hid (HQ.out.on hb5)
        have HDIS := Lib.hid (show ∀ b, (Value.slice A5 L.length c5).ownBlock = some b → ¬ S b from fun b hb h => by
          have h1 := (hr5.lt b hb).1
          have h2 := HQ.out.bnd b h
          omega)
        clear hr5 hp5 hT hb5 HSORT
        rw [HL.out] at HR5 HDIS ⊢
        have hnn : ((k : Int) != (k : Int)) = false := by simp
        have HSORTED := Lib.hid (HP5.out.sorted (sw_lessM m)).2
        have HSTB := Lib.hid (HP5.out.stable (tag := fun x => x.2) HASC.out)
        have eg := HO.out.eg
        go_wp2_with fail
        go_loopw [11] (fun i wr => ∃ (j : Nat) (R : List It), i = .int .i64 (j : Int) ∧ j ≤ k ∧ R.length + j = k ∧ Qr wr w.heap.size S n (lessM m) R k ∧ Row cV 2 TV wo.heap.size wr (.slice A5 k c5) T ∧ Pops (lessM m) R (T.drop j) [] ∧ Below w.heap.size w wr) (fun i _ => k - (intOf i).toNat)
        case atStart => exact ⟨0, L, rfl, Nat.zero_le _, HL.out, HQ5.out, HR5.out, by rw [List.drop_zero]; exact HP5.out, HB5.out⟩
        case round =>
          obtain ⟨j, R, rfl, hj, hlen, hq, hrow, hpops, hbel⟩ := hrel
          have HJ := Lib.hid hj
          have HLEN := Lib.hid hlen
          have HQ := Lib.hid hq
          have HROW := Lib.hid hrow
          have HPP := Lib.hid hpops
          have HB := Lib.hid hbel
          clear hj hlen hq hrow hpops hbel
          rcases Nat.lt_or_ge j k with hlt | hge
          · have HPOP := Lib.hid (pop_at HQ.out HO.out (by have := HLEN.out; have := HG.out; omega) (by have := HLEN.out; omega))
            obtain ⟨t, ht⟩ := get_lt (L := T) (k := j) (by rw [HT.out]; exact hlt)
            have hdr : T.drop j = t :: T.drop (j + 1) := by
              have hl := glt ht
              rw [List.getElem?_eq_getElem hl] at ht
              rw [← Option.some.inj ht]
              exact List.drop_eq_getElem_cons hl
            have HDR := Lib.hid hdr
            have HTJ := Lib.hid ht
            have i1 : (j : Int) < (k : Int) := by omega
            have i2 : (0 : Int) ≤ (j : Int) := by omega
            clear ht hdr
            go_wp2_with fail
            refine HPOP.out.mono ?_
            rintro e w6 ⟨i, x, hx, hf, rfl, hq6, ho6⟩
            have hpp := HPP.out
            rw [HDR.out] at hpp
            obtain ⟨rfl, hpp2⟩ := pops_next (sw_lessM m) hpp (hf (sw_lessM m)) hx
            have HPP2 := Lib.hid hpp2
            have HLN := Lib.hid (show (R.eraseIdx i).length + (j + 1) = k by have := erase_len hx; have := HLEN.out; omega)
            have HQ6 := Lib.hid hq6
            have HB6 := Lib.hid (HB.out.trans (Off.below ho6 (B := w.heap.size) HB.out.size (by assumption : Hid (∀ j, S j → w.heap.size ≤ j)).out))
            have hrow6 : Row cV 2 TV wo.heap.size w6 (.slice A5 k c5) T := HROW.out.keep fun b hb => ho6.block b (HROW.out.lt b hb).2 (HDIS.out b hb)
            have HROW6 := Lib.hid hrow6
            clear hpp hpp2 hx hf hq6 ho6 hrow6 HPOP
            go_upto_region 21 with fail
            generalize hw7 : w6.alloc (.cells #[.int .i64 x.1, .int .i64 x.2] TV) = w7
            have HB67 : Hid (Below w6.heap.size w6 w7) := hw7 ▸ below_alloc _ _
            have HB7 := Lib.hid (HB6.out.trans (HB67.out.mono HB6.out.size))
            have k7 : w7.heap[w6.heap.size]? = some (.cells #[.int .i64 x.1, .int .i64 x.2] TV (0, 0)) := by rw [← hw7]; exact heap_alloc_new _ _
            clear hw7
            have z0 : w7.cell? ⟨w6.heap.size, 0, none⟩ = some (.int .i64 x.1) := by rw [cell_of_row _ _ _ _ _ _ k7]; rfl
            have z1 : w7.cell? ⟨w6.heap.size, 1, none⟩ = some (.int .i64 x.2) := by rw [cell_of_row _ _ _ _ _ _ k7]; rfl
            have zl : w6.heap.size < w7.heap.size := (Array.getElem?_eq_some_iff.mp k7).1
            have HQ7 := Lib.hid (HQ6.out.on HB67.out)
            have HROW7 := Lib.hid (HROW6.out.on HB67.out)
            obtain ⟨b, off, rfl, hb, h0, h1⟩ := rd_cells (row_rd HROW7.out).1 HTJ.out
            have hne := neq_same x
            clear k7
            rcases Nat.eq_zero_or_pos j with hj0 | hj0
            · have hjj : decide (0 < j) = false := by simp; omega
              have hji : decide (0 < (j : Int)) = false := by simp; omega
              have hji2 : ¬ 0 < (j : Int) := by omega
              have HJ0 := Lib.hid hj0
              clear hj0
              go_quiet (fail)
              go_wp2_with fail
              go_roundw
              case rel => exact ⟨j + 1, R.eraseIdx i, by go_num, hlt, HLN.out, HQ7.out.on (below_drewN (Below.refl _ _) _), HROW7.out.on (below_drewN (Below.refl _ _) _), HPP2.out, below_drewN HB7.out _⟩
              case measure => simp [intOf]; omega
            · obtain ⟨p, hp⟩ := get_lt (L := T) (k := j - 1) (by rw [HT.out]; omega)
              obtain ⟨j1, hj1⟩ : ∃ j1, j = j1 + 1 := ⟨j - 1, by omega⟩
              have hp1 : T[j1]? = some p := by rw [show j1 = j - 1 by omega]; exact hp
              obtain ⟨b2, off2, eb, hb2, g0, g1⟩ := rd_cells (row_rd HROW7.out).1 hp1
              cases eb
              have hsrt : lessM m x p = false := pair_at HSORTED.out hp1 HTJ.out (by omega)
              have hstb := pair_at HSTB.out hp1 HTJ.out (by omega)
              have H1 := Lib.hid (HO.out.call x p)
              rw [hsrt] at H1
              have H2 := Lib.hid (HO.out.call p x)
              have hd : (j : Int) - 1 = (j1 : Int) := by omega
              have hjj : decide (0 < j) = true := by simp; omega
              have hji : decide (0 < (j : Int)) = true := by simp; omega
              have hw1 : IntKind.i64.wrap ((j : Int) - 1) = (j1 : Int) := by rw [wrap_id (by have := HG.out; omega)]; omega
              have hw2 : wrap64 ((j : Int) - 1) = (j1 : Int) := by rw [IntWalk.wrap64_in _ (by have := HG.out; omega)]; omega
              have hw3 : IntKind.i64.wrap (j1 : Int) = (j1 : Int) := wrap_id (by have := HG.out; omega)
              have hw4 : wrap64 (j1 : Int) = (j1 : Int) := IntWalk.wrap64_in _ (by have := HG.out; omega)
              have hb1 : (1 : Int) ≤ (j : Int) := by omega
              have hb3 : (j : Int) ≤ 200 := by have := HG.out; omega
              have i3 : (j1 : Int) < (k : Int) := by omega
              have i4 : (0 : Int) ≤ (j1 : Int) := by omega
              have HK7 := Lib.hid (show ∀ W, Below w7.heap.size w7 W → (W.cell? ⟨w6.heap.size, 0, none⟩ = some (.int .i64 x.1) ∧ W.cell? ⟨w6.heap.size, 1, none⟩ = some (.int .i64 x.2)) ∧ (W.cell? ⟨b, off + j * 2, none⟩ = some (.int .i64 x.1) ∧ W.cell? ⟨b, off + j * 2 + 1, none⟩ = some (.int .i64 x.2)) ∧ (W.cell? ⟨b, off + j1 * 2, none⟩ = some (.int .i64 p.1) ∧ W.cell? ⟨b, off + j1 * 2 + 1, none⟩ = some (.int .i64 p.2)) from fun W hW =>
                ⟨⟨(hW.cell (p := ⟨w6.heap.size, 0, none⟩) zl).trans z0, (hW.cell (p := ⟨w6.heap.size, 1, none⟩) zl).trans z1⟩, ⟨(hW.cell (p := ⟨b, _, none⟩) hb).trans h0, (hW.cell (p := ⟨b, _, none⟩) hb).trans h1⟩, (hW.cell (p := ⟨b, _, none⟩) hb).trans g0, (hW.cell (p := ⟨b, _, none⟩) hb).trans g1⟩)
              cases hpx : lessM m p x with
              | true =>
                rw [hpx] at H2
                clear hp hp1 hj1 hsrt hstb hpx
                -- [region 21, less p x
                refine wp_region_held_drew (S := (fun W' => (W'.cell? ⟨w6.heap.size, 0, none⟩ = some (.int .i64 x.1) ∧ W'.cell? ⟨w6.heap.size, 1, none⟩ = some (.int .i64 x.2)) ∧ (W'.cell? ⟨b, off + j * 2, none⟩ = some (.int .i64 x.1) ∧ W'.cell? ⟨b, off + j * 2 + 1, none⟩ = some (.int .i64 x.2)) ∧ (W'.cell? ⟨b, off + j1 * 2, none⟩ = some (.int .i64 p.1) ∧ W'.cell? ⟨b, off + j1 * 2 + 1, none⟩ = some (.int .i64 p.2)))) (by kernel_rfl) (HK7.out _ (drew_below _)) (fun hHeld => ?_)
                refine wpAnyH_take (i := 0) (oi := { dst := some 62, op := Op.move (Operand.tmp 13), type := 4, pos := "law.go:116", after := #[], guard := none }) (v := ?_) rfl (by kernel_rfl) (by kernel_rfl) (by kernel_rfl) (fun _ _ _ h => h) (Or.inl ⟨by rfl, ?_⟩) (by assumption) ?_
                rotate_left
                · intro w hSw
                  (try dsimp only at hSw)
                  go_simp
                  try with_reducible rfl
                try simp only [Act.put, List.setIfInBounds_toArray, List.set_cons_zero, List.set_cons_succ]
                refine wpAnyH_take (i := 1) (oi := { dst := some 63, op := Op.unOp UnOp.not 4 (Operand.tmp 62), type := 4, pos := "law.go:116", after := #[{ on := 0, ground := Ground.data }], guard := none }) (v := ?_) rfl (by kernel_rfl) (by kernel_rfl) (by kernel_rfl) (fun _ _ _ h => h) (Or.inl ⟨by rfl, ?_⟩) (by assumption) ?_
                rotate_left
                · intro w hSw
                  (try dsimp only at hSw)
                  go_simp
                  try with_reducible rfl
                try simp only [Act.put, List.setIfInBounds_toArray, List.set_cons_zero, List.set_cons_succ]
                refine wpAnyH_take (i := 2) (oi := { dst := some 64, op := Op.move (Operand.tmp 63), type := 4, pos := "law.go:116", after := #[{ on := 1, ground := Ground.data }], guard := none }) (v := ?_) rfl (by kernel_rfl) (by kernel_rfl) (by kernel_rfl) (fun _ _ _ h => h) (Or.inl ⟨by rfl, ?_⟩) (by assumption) ?_
                rotate_left
                · intro w hSw
                  (try dsimp only at hSw)
                  go_simp
                  try with_reducible rfl
                try simp only [Act.put, List.setIfInBounds_toArray, List.set_cons_zero, List.set_cons_succ]
                refine wpAnyH_take (i := 3) (oi := { dst := some 65, op := Op.load 27 (Operand.tmp 12), type := 27, pos := "law.go:116", after := #[{ on := 2, ground := Ground.guard }], guard := some (2, false) }) (v := ?_) rfl (by kernel_rfl) (by kernel_rfl) (by kernel_rfl) (fun _ _ _ h => h) (Or.inl ⟨by rfl, ?_⟩) (by assumption) ?_
                rotate_left
                · intro w hSw
                  (try dsimp only at hSw)
                  go_simp
                  try with_reducible rfl
                try simp only [Act.put, List.setIfInBounds_toArray, List.set_cons_zero, List.set_cons_succ]
                refine wpAnyH_take (i := 4) (oi := { dst := some 66, op := Op.move (Operand.tmp 10), type := 31, pos := "law.go:116", after := #[{ on := 2, ground := Ground.guard }], guard := some (2, false) }) (v := ?_) rfl (by kernel_rfl) (by kernel_rfl) (by kernel_rfl) (fun _ _ _ h => h) (Or.inl ⟨by rfl, ?_⟩) (by assumption) ?_
                rotate_left
                · intro w hSw
                  (try dsimp only at hSw)
                  go_simp
                  try with_reducible rfl
                try simp only [Act.put, List.setIfInBounds_toArray, List.set_cons_zero, List.set_cons_succ]
                refine wpAnyH_take (i := 5) (oi := { dst := some 67, op := Op.move (Operand.tmp 11), type := 3, pos := "law.go:116", after := #[{ on := 2, ground := Ground.guard }], guard := some (2, false) }) (v := ?_) rfl (by kernel_rfl) (by kernel_rfl) (by kernel_rfl) (fun _ _ _ h => h) (Or.inl ⟨by rfl, ?_⟩) (by assumption) ?_
                rotate_left
                · intro w hSw
                  (try dsimp only at hSw)
                  go_simp
                  try with_reducible rfl
                try simp only [Act.put, List.setIfInBounds_toArray, List.set_cons_zero, List.set_cons_succ]
                refine wpAnyH_take (i := 6) (oi := { dst := some 68, op := Op.indexAddr 31 (Operand.tmp 66) (Operand.tmp 67), type := 0, pos := "law.go:116", after := #[{ on := 4, ground := Ground.data }, { on := 5, ground := Ground.data }, { on := 2, ground := Ground.guard }], guard := some (2, false) }) (v := ?_) rfl (by kernel_rfl) (by kernel_rfl) (by kernel_rfl) (fun _ _ _ h => h) (Or.inl ⟨by rfl, ?_⟩) (by assumption) ?_
                rotate_left
                · intro w hSw
                  (try dsimp only at hSw)
                  go_simp
                  try with_reducible rfl
                try simp only [Act.put, List.setIfInBounds_toArray, List.set_cons_zero, List.set_cons_succ]
                refine wpAnyH_take (i := 7) (oi := { dst := some 69, op := Op.load 27 (Operand.tmp 68), type := 27, pos := "law.go:116", after := #[{ on := 6, ground := Ground.data }, { on := 2, ground := Ground.guard }], guard := some (2, false) }) (v := ?_) rfl (by kernel_rfl) (by kernel_rfl) (by kernel_rfl) (fun _ _ _ h => h) (Or.inl ⟨by rfl, ?_⟩) (by assumption) ?_
                rotate_left
                · intro w hSw
                  (try dsimp only at hSw)
                  go_simp
                  try with_reducible rfl
                try simp only [Act.put, List.setIfInBounds_toArray, List.set_cons_zero, List.set_cons_succ]
                refine wpAnyH_take (i := 8) (oi := { dst := some 70, op := Op.binOp BinOp.neq 27 (Operand.tmp 65) (Operand.tmp 69) 27, type := 4, pos := "law.go:116", after := #[{ on := 3, ground := Ground.data }, { on := 7, ground := Ground.data }, { on := 2, ground := Ground.guard }], guard := some (2, false) }) (v := ?_) rfl (by kernel_rfl) (by kernel_rfl) (by kernel_rfl) (fun _ _ _ h => h) (Or.inl ⟨by rfl, ?_⟩) (by assumption) ?_
                rotate_left
                · intro w hSw
                  (try dsimp only at hSw)
                  go_simp
                  try with_reducible rfl
                try simp only [Act.put, List.setIfInBounds_toArray, List.set_cons_zero, List.set_cons_succ]
                refine wpAnyH_take (i := 9) (oi := { dst := some 71, op := Op.pick (Operand.tmp 64) (Operand.const (Value.bool true)) (Operand.tmp 70), type := 4, pos := "law.go:116", after := #[{ on := 2, ground := Ground.data }, { on := 8, ground := Ground.data }], guard := none }) (v := ?_) rfl (by kernel_rfl) (by kernel_rfl) (by kernel_rfl) (fun _ _ _ h => h) (Or.inl ⟨by rfl, ?_⟩) (by assumption) ?_
                rotate_left
                · intro w hSw
                  (try dsimp only at hSw)
                  go_simp
                  try with_reducible rfl
                try simp only [Act.put, List.setIfInBounds_toArray, List.set_cons_zero, List.set_cons_succ]
                refine wpAnyH_take (i := 10) (oi := { dst := some 72, op := Op.move (Operand.tmp 71), type := 4, pos := "law.go:116", after := #[{ on := 9, ground := Ground.data }, { on := 2, ground := Ground.chain }], guard := none }) (v := ?_) rfl (by kernel_rfl) (by kernel_rfl) (by kernel_rfl) (fun _ _ _ h => h) (Or.inl ⟨by rfl, ?_⟩) (by assumption) ?_
                rotate_left
                · intro w hSw
                  (try dsimp only at hSw)
                  go_simp
                  try with_reducible rfl
                try simp only [Act.put, List.setIfInBounds_toArray, List.set_cons_zero, List.set_cons_succ]
                refine wpAnyH_take (i := 11) (oi := { dst := some 73, op := Op.move (Operand.tmp 11), type := 3, pos := "law.go:116", after := #[{ on := 10, ground := Ground.guard }], guard := some (10, false) }) (v := ?_) rfl (by kernel_rfl) (by kernel_rfl) (by kernel_rfl) (fun _ _ _ h => h) (Or.inl ⟨by rfl, ?_⟩) (by assumption) ?_
                rotate_left
                · intro w hSw
                  (try dsimp only at hSw)
                  go_simp
                  try with_reducible rfl
                try simp only [Act.put, List.setIfInBounds_toArray, List.set_cons_zero, List.set_cons_succ]
                refine wpAnyH_take (i := 12) (oi := { dst := some 74, op := Op.binOp BinOp.gtr 3 (Operand.tmp 73) (Operand.const (Value.int IntKind.i64 0)) 3, type := 4, pos := "law.go:116", after := #[{ on := 11, ground := Ground.data }, { on := 10, ground := Ground.guard }], guard := some (10, false) }) (v := ?_) rfl (by kernel_rfl) (by kernel_rfl) (by kernel_rfl) (fun _ _ _ h => h) (Or.inl ⟨by rfl, ?_⟩) (by assumption) ?_
                rotate_left
                · intro w hSw
                  (try dsimp only at hSw)
                  go_simp
                  try with_reducible rfl
                try simp only [Act.put, List.setIfInBounds_toArray, List.set_cons_zero, List.set_cons_succ]
                refine wpAnyH_take (i := 13) (oi := { dst := some 75, op := Op.move (Operand.tmp 74), type := 4, pos := "law.go:116", after := #[{ on := 12, ground := Ground.data }, { on := 10, ground := Ground.chain }, { on := 10, ground := Ground.guard }], guard := some (10, false) }) (v := ?_) rfl (by kernel_rfl) (by kernel_rfl) (by kernel_rfl) (fun _ _ _ h => h) (Or.inl ⟨by rfl, ?_⟩) (by assumption) ?_
                rotate_left
                · intro w hSw
                  (try dsimp only at hSw)
                  go_simp
                  try with_reducible rfl
                try simp only [Act.put, List.setIfInBounds_toArray, List.set_cons_zero, List.set_cons_succ]
                refine wpAnyH_take (i := 14) (oi := { dst := some 76, op := Op.move (Operand.tmp 5), type := 28, pos := "law.go:116", after := #[{ on := 13, ground := Ground.guard }], guard := some (13, true) }) (v := ?_) rfl (by kernel_rfl) (by kernel_rfl) (by kernel_rfl) (fun _ _ _ h => h) (Or.inl ⟨by rfl, ?_⟩) (by assumption) ?_
                rotate_left
                · intro w hSw
                  (try dsimp only at hSw)
                  go_simp
                  try with_reducible rfl
                try simp only [Act.put, List.setIfInBounds_toArray, List.set_cons_zero, List.set_cons_succ]
                refine wpAnyH_take (i := 15) (oi := { dst := some 77, op := Op.move (Operand.tmp 10), type := 31, pos := "law.go:116", after := #[{ on := 13, ground := Ground.guard }], guard := some (13, true) }) (v := ?_) rfl (by kernel_rfl) (by kernel_rfl) (by kernel_rfl) (fun _ _ _ h => h) (Or.inl ⟨by rfl, ?_⟩) (by assumption) ?_
                rotate_left
                · intro w hSw
                  (try dsimp only at hSw)
                  go_simp
                  try with_reducible rfl
                try simp only [Act.put, List.setIfInBounds_toArray, List.set_cons_zero, List.set_cons_succ]
                refine wpAnyH_take (i := 16) (oi := { dst := some 78, op := Op.move (Operand.tmp 11), type := 3, pos := "law.go:116", after := #[{ on := 13, ground := Ground.guard }], guard := some (13, true) }) (v := ?_) rfl (by kernel_rfl) (by kernel_rfl) (by kernel_rfl) (fun _ _ _ h => h) (Or.inl ⟨by rfl, ?_⟩) (by assumption) ?_
                rotate_left
                · intro w hSw
                  (try dsimp only at hSw)
                  go_simp
                  try with_reducible rfl
                try simp only [Act.put, List.setIfInBounds_toArray, List.set_cons_zero, List.set_cons_succ]
                refine wpAnyH_take (i := 17) (oi := { dst := some 79, op := Op.indexAddr 31 (Operand.tmp 77) (Operand.tmp 78), type := 0, pos := "law.go:116", after := #[{ on := 15, ground := Ground.data }, { on := 16, ground := Ground.data }, { on := 13, ground := Ground.guard }], guard := some (13, true) }) (v := ?_) rfl (by kernel_rfl) (by kernel_rfl) (by kernel_rfl) (fun _ _ _ h => h) (Or.inl ⟨by rfl, ?_⟩) (by assumption) ?_
                rotate_left
                · intro w hSw
                  (try dsimp only at hSw)
                  go_simp
                  try with_reducible rfl
                try simp only [Act.put, List.setIfInBounds_toArray, List.set_cons_zero, List.set_cons_succ]
                refine wpAnyH_take (i := 18) (oi := { dst := some 80, op := Op.load 27 (Operand.tmp 79), type := 27, pos := "law.go:116", after := #[{ on := 17, ground := Ground.data }, { on := 13, ground := Ground.guard }], guard := some (13, true) }) (v := ?_) rfl (by kernel_rfl) (by kernel_rfl) (by kernel_rfl) (fun _ _ _ h => h) (Or.inl ⟨by rfl, ?_⟩) (by assumption) ?_
                rotate_left
                · intro w hSw
                  (try dsimp only at hSw)
                  go_simp
                  try with_reducible rfl
                try simp only [Act.put, List.setIfInBounds_toArray, List.set_cons_zero, List.set_cons_succ]
                refine wpAnyH_take (i := 19) (oi := { dst := some 81, op := Op.move (Operand.tmp 10), type := 31, pos := "law.go:116", after := #[{ on := 13, ground := Ground.guard }], guard := some (13, true) }) (v := ?_) rfl (by kernel_rfl) (by kernel_rfl) (by kernel_rfl) (fun _ _ _ h => h) (Or.inl ⟨by rfl, ?_⟩) (by assumption) ?_
                rotate_left
                · intro w hSw
                  (try dsimp only at hSw)
                  go_simp
                  try with_reducible rfl
                try simp only [Act.put, List.setIfInBounds_toArray, List.set_cons_zero, List.set_cons_succ]
                refine wpAnyH_take (i := 20) (oi := { dst := some 82, op := Op.move (Operand.tmp 11), type := 3, pos := "law.go:116", after := #[{ on := 13, ground := Ground.guard }], guard := some (13, true) }) (v := ?_) rfl (by kernel_rfl) (by kernel_rfl) (by kernel_rfl) (fun _ _ _ h => h) (Or.inl ⟨by rfl, ?_⟩) (by assumption) ?_
                rotate_left
                · intro w hSw
                  (try dsimp only at hSw)
                  go_simp
                  try with_reducible rfl
                try simp only [Act.put, List.setIfInBounds_toArray, List.set_cons_zero, List.set_cons_succ]
                refine wpAnyH_take (i := 21) (oi := { dst := some 83, op := Op.binOp BinOp.sub 3 (Operand.tmp 82) (Operand.const (Value.int IntKind.i64 1)) 3, type := 3, pos := "law.go:116", after := #[{ on := 20, ground := Ground.data }, { on := 13, ground := Ground.guard }], guard := some (13, true) }) (v := ?_) rfl (by kernel_rfl) (by kernel_rfl) (by kernel_rfl) (fun _ _ _ h => h) (Or.inl ⟨by rfl, ?_⟩) (by assumption) ?_
                rotate_left
                · intro w hSw
                  (try dsimp only at hSw)
                  go_simp
                  try with_reducible rfl
                try simp only [Act.put, List.setIfInBounds_toArray, List.set_cons_zero, List.set_cons_succ]
                refine wpAnyH_take (i := 22) (oi := { dst := some 84, op := Op.indexAddr 31 (Operand.tmp 81) (Operand.tmp 83), type := 0, pos := "law.go:116", after := #[{ on := 19, ground := Ground.data }, { on := 21, ground := Ground.data }, { on := 13, ground := Ground.guard }], guard := some (13, true) }) (v := ?_) rfl (by kernel_rfl) (by kernel_rfl) (by kernel_rfl) (fun _ _ _ h => h) (Or.inl ⟨by rfl, ?_⟩) (by assumption) ?_
                rotate_left
                · intro w hSw
                  (try dsimp only at hSw)
                  go_simp
                  try with_reducible rfl
                try simp only [Act.put, List.setIfInBounds_toArray, List.set_cons_zero, List.set_cons_succ]
                refine wpAnyH_take (i := 23) (oi := { dst := some 85, op := Op.load 27 (Operand.tmp 84), type := 27, pos := "law.go:116", after := #[{ on := 22, ground := Ground.data }, { on := 13, ground := Ground.guard }], guard := some (13, true) }) (v := ?_) rfl (by kernel_rfl) (by kernel_rfl) (by kernel_rfl) (fun _ _ _ h => h) (Or.inl ⟨by rfl, ?_⟩) (by assumption) ?_
                rotate_left
                · intro w hSw
                  (try dsimp only at hSw)
                  go_simp
                  try with_reducible rfl
                try simp only [Act.put, List.setIfInBounds_toArray, List.set_cons_zero, List.set_cons_succ]
                refine wpAnyH_ready (rs := [24]) (by kernel_rfl) (by simp) ?_
                refine AllReadyH.cons (o := { dst := some 86, op := Op.call { callee := Callee.value (Operand.tmp 76), args := #[Operand.tmp 80, Operand.tmp 85], argTypes := #[27, 27] }, type := 4, pos := "law.go:116", after := #[{ on := 14, ground := Ground.data }, { on := 18, ground := Ground.data }, { on := 23, ground := Ground.data }, { on := 13, ground := Ground.chain }, { on := 13, ground := Ground.guard }], guard := some (13, true) }) rfl (fun K hK => ?_) AllReadyH.nil
                go_simp
                go_at_fn n
                (with_reducible refine (H1.out _).mono ?_)
                rintro e wA ⟨rfl, hbA⟩
                go_wp2_with fail
                refine hK.out _ _ ?_ (fun hHeld => ?_)
                · (try dsimp only)
                  exact HK7.out _ (bstep (drew_below _) hbA)
                clear hK K
                try simp only [Act.put, List.setIfInBounds_toArray, List.set_cons_zero, List.set_cons_succ]
                refine wpAnyH_take (i := 25) (oi := { dst := some 87, op := Op.move (Operand.tmp 86), type := 4, pos := "law.go:116", after := #[{ on := 24, ground := Ground.data }, { on := 24, ground := Ground.chain }, { on := 13, ground := Ground.guard }], guard := some (13, true) }) (v := ?_) rfl (by kernel_rfl) (by kernel_rfl) (by kernel_rfl) (fun _ _ _ h => h) (Or.inl ⟨by rfl, ?_⟩) (by assumption) ?_
                rotate_left
                · intro w hSw
                  (try dsimp only at hSw)
                  go_simp
                  try with_reducible rfl
                try simp only [Act.put, List.setIfInBounds_toArray, List.set_cons_zero, List.set_cons_succ]
                refine wpAnyH_take (i := 26) (oi := { dst := some 88, op := Op.move (Operand.tmp 5), type := 28, pos := "law.go:116", after := #[{ on := 25, ground := Ground.guard }], guard := some (25, false) }) (v := ?_) rfl (by kernel_rfl) (by kernel_rfl) (by kernel_rfl) (fun _ _ _ h => h) (Or.inl ⟨by rfl, ?_⟩) (by assumption) ?_
                rotate_left
                · intro w hSw
                  (try dsimp only at hSw)
                  go_simp
                  try with_reducible rfl
                try simp only [Act.put, List.setIfInBounds_toArray, List.set_cons_zero, List.set_cons_succ]
                refine wpAnyH_take (i := 27) (oi := { dst := some 89, op := Op.move (Operand.tmp 10), type := 31, pos := "law.go:116", after := #[{ on := 25, ground := Ground.guard }], guard := some (25, false) }) (v := ?_) rfl (by kernel_rfl) (by kernel_rfl) (by kernel_rfl) (fun _ _ _ h => h) (Or.inl ⟨by rfl, ?_⟩) (by assumption) ?_
                rotate_left
                · intro w hSw
                  (try dsimp only at hSw)
                  go_simp
                  try with_reducible rfl
                try simp only [Act.put, List.setIfInBounds_toArray, List.set_cons_zero, List.set_cons_succ]
                refine wpAnyH_take (i := 28) (oi := { dst := some 90, op := Op.move (Operand.tmp 11), type := 3, pos := "law.go:116", after := #[{ on := 25, ground := Ground.guard }], guard := some (25, false) }) (v := ?_) rfl (by kernel_rfl) (by kernel_rfl) (by kernel_rfl) (fun _ _ _ h => h) (Or.inl ⟨by rfl, ?_⟩) (by assumption) ?_
                rotate_left
                · intro w hSw
                  (try dsimp only at hSw)
                  go_simp
                  try with_reducible rfl
                try simp only [Act.put, List.setIfInBounds_toArray, List.set_cons_zero, List.set_cons_succ]
                refine wpAnyH_take (i := 29) (oi := { dst := some 91, op := Op.binOp BinOp.sub 3 (Operand.tmp 90) (Operand.const (Value.int IntKind.i64 1)) 3, type := 3, pos := "law.go:116", after := #[{ on := 28, ground := Ground.data }, { on := 25, ground := Ground.guard }], guard := some (25, false) }) (v := ?_) rfl (by kernel_rfl) (by kernel_rfl) (by kernel_rfl) (fun _ _ _ h => h) (Or.inl ⟨by rfl, ?_⟩) (by assumption) ?_
                rotate_left
                · intro w hSw
                  (try dsimp only at hSw)
                  go_simp
                  try with_reducible rfl
                try simp only [Act.put, List.setIfInBounds_toArray, List.set_cons_zero, List.set_cons_succ]
                refine wpAnyH_take (i := 30) (oi := { dst := some 92, op := Op.indexAddr 31 (Operand.tmp 89) (Operand.tmp 91), type := 0, pos := "law.go:116", after := #[{ on := 27, ground := Ground.data }, { on := 29, ground := Ground.data }, { on := 25, ground := Ground.guard }], guard := some (25, false) }) (v := ?_) rfl (by kernel_rfl) (by kernel_rfl) (by kernel_rfl) (fun _ _ _ h => h) (Or.inl ⟨by rfl, ?_⟩) (by assumption) ?_
                rotate_left
                · intro w hSw
                  (try dsimp only at hSw)
                  go_simp
                  try with_reducible rfl
                try simp only [Act.put, List.setIfInBounds_toArray, List.set_cons_zero, List.set_cons_succ]
                refine wpAnyH_take (i := 31) (oi := { dst := some 93, op := Op.load 27 (Operand.tmp 92), type := 27, pos := "law.go:116", after := #[{ on := 30, ground := Ground.data }, { on := 25, ground := Ground.guard }], guard := some (25, false) }) (v := ?_) rfl (by kernel_rfl) (by kernel_rfl) (by kernel_rfl) (fun _ _ _ h => h) (Or.inl ⟨by rfl, ?_⟩) (by assumption) ?_
                rotate_left
                · intro w hSw
                  (try dsimp only at hSw)
                  go_simp
                  try with_reducible rfl
                try simp only [Act.put, List.setIfInBounds_toArray, List.set_cons_zero, List.set_cons_succ]
                refine wpAnyH_take (i := 32) (oi := { dst := some 94, op := Op.move (Operand.tmp 10), type := 31, pos := "law.go:116", after := #[{ on := 25, ground := Ground.guard }], guard := some (25, false) }) (v := ?_) rfl (by kernel_rfl) (by kernel_rfl) (by kernel_rfl) (fun _ _ _ h => h) (Or.inl ⟨by rfl, ?_⟩) (by assumption) ?_
                rotate_left
                · intro w hSw
                  (try dsimp only at hSw)
                  go_simp
                  try with_reducible rfl
                try simp only [Act.put, List.setIfInBounds_toArray, List.set_cons_zero, List.set_cons_succ]
                refine wpAnyH_take (i := 33) (oi := { dst := some 95, op := Op.move (Operand.tmp 11), type := 3, pos := "law.go:116", after := #[{ on := 25, ground := Ground.guard }], guard := some (25, false) }) (v := ?_) rfl (by kernel_rfl) (by kernel_rfl) (by kernel_rfl) (fun _ _ _ h => h) (Or.inl ⟨by rfl, ?_⟩) (by assumption) ?_
                rotate_left
                · intro w hSw
                  (try dsimp only at hSw)
                  go_simp
                  try with_reducible rfl
                try simp only [Act.put, List.setIfInBounds_toArray, List.set_cons_zero, List.set_cons_succ]
                refine wpAnyH_take (i := 34) (oi := { dst := some 96, op := Op.indexAddr 31 (Operand.tmp 94) (Operand.tmp 95), type := 0, pos := "law.go:116", after := #[{ on := 32, ground := Ground.data }, { on := 33, ground := Ground.data }, { on := 25, ground := Ground.guard }], guard := some (25, false) }) (v := ?_) rfl (by kernel_rfl) (by kernel_rfl) (by kernel_rfl) (fun _ _ _ h => h) (Or.inl ⟨by rfl, ?_⟩) (by assumption) ?_
                rotate_left
                · intro w hSw
                  (try dsimp only at hSw)
                  go_simp
                  try with_reducible rfl
                try simp only [Act.put, List.setIfInBounds_toArray, List.set_cons_zero, List.set_cons_succ]
                refine wpAnyH_take (i := 35) (oi := { dst := some 97, op := Op.load 27 (Operand.tmp 96), type := 27, pos := "law.go:116", after := #[{ on := 34, ground := Ground.data }, { on := 25, ground := Ground.guard }], guard := some (25, false) }) (v := ?_) rfl (by kernel_rfl) (by kernel_rfl) (by kernel_rfl) (fun _ _ _ h => h) (Or.inl ⟨by rfl, ?_⟩) (by assumption) ?_
                rotate_left
                · intro w hSw
                  (try dsimp only at hSw)
                  go_simp
                  try with_reducible rfl
                try simp only [Act.put, List.setIfInBounds_toArray, List.set_cons_zero, List.set_cons_succ]
                refine wpAnyH_ready (rs := [36]) (by kernel_rfl) (by simp) ?_
                refine AllReadyH.cons (o := { dst := some 98, op := Op.call { callee := Callee.value (Operand.tmp 88), args := #[Operand.tmp 93, Operand.tmp 97], argTypes := #[27, 27] }, type := 4, pos := "law.go:116", after := #[{ on := 26, ground := Ground.data }, { on := 31, ground := Ground.data }, { on := 35, ground := Ground.data }, { on := 25, ground := Ground.chain }, { on := 25, ground := Ground.guard }], guard := some (25, false) }) rfl (fun K hK => ?_) AllReadyH.nil
                go_simp
                go_at_fn n
                (with_reducible refine (H2.out _).mono ?_)
                rintro e wB ⟨rfl, hbB⟩
                go_wp2_with fail
                refine hK.out _ _ ?_ (fun hHeld => ?_)
                · (try dsimp only)
                  exact HK7.out _ (bstep (bstep (drew_below _) hbA) hbB)
                clear hK K
                try simp only [Act.put, List.setIfInBounds_toArray, List.set_cons_zero, List.set_cons_succ]
                refine wpAnyH_take (i := 37) (oi := { dst := some 99, op := Op.unOp UnOp.not 4 (Operand.tmp 98), type := 4, pos := "law.go:116", after := #[{ on := 36, ground := Ground.data }, { on := 25, ground := Ground.guard }], guard := some (25, false) }) (v := ?_) rfl (by kernel_rfl) (by kernel_rfl) (by kernel_rfl) (fun _ _ _ h => h) (Or.inl ⟨by rfl, ?_⟩) (by assumption) ?_
                rotate_left
                · intro w hSw
                  (try dsimp only at hSw)
                  go_simp
                  try with_reducible rfl
                try simp only [Act.put, List.setIfInBounds_toArray, List.set_cons_zero, List.set_cons_succ]
                refine wpAnyH_take (i := 38) (oi := { dst := some 100, op := Op.move (Operand.tmp 99), type := 4, pos := "law.go:116", after := #[{ on := 37, ground := Ground.data }, { on := 36, ground := Ground.chain }, { on := 25, ground := Ground.guard }], guard := some (25, false) }) (v := ?_) rfl (by kernel_rfl) (by kernel_rfl) (by kernel_rfl) (fun _ _ _ h => h) (Or.inl ⟨by rfl, ?_⟩) (by assumption) ?_
                rotate_left
                · intro w hSw
                  (try dsimp only at hSw)
                  go_simp
                  try with_reducible rfl
                try simp only [Act.put, List.setIfInBounds_toArray, List.set_cons_zero, List.set_cons_succ]
                refine wpAnyH_take (i := 39) (oi := { dst := some 101, op := Op.move (Operand.tmp 10), type := 31, pos := "law.go:116", after := #[{ on := 38, ground := Ground.guard }], guard := some (38, true) }) (v := undef) rfl (by kernel_rfl) (by kernel_rfl) (by kernel_rfl) (fun _ _ _ h => h) (Or.inr ⟨by kernel_rfl, rfl⟩) (by assumption) ?_
                try simp only [Act.put, List.setIfInBounds_toArray, List.set_cons_zero, List.set_cons_succ]
                refine wpAnyH_take (i := 40) (oi := { dst := some 102, op := Op.move (Operand.tmp 11), type := 3, pos := "law.go:116", after := #[{ on := 38, ground := Ground.guard }], guard := some (38, true) }) (v := undef) rfl (by kernel_rfl) (by kernel_rfl) (by kernel_rfl) (fun _ _ _ h => h) (Or.inr ⟨by kernel_rfl, rfl⟩) (by assumption) ?_
                try simp only [Act.put, List.setIfInBounds_toArray, List.set_cons_zero, List.set_cons_succ]
                refine wpAnyH_take (i := 41) (oi := { dst := some 103, op := Op.indexAddr 31 (Operand.tmp 101) (Operand.tmp 102), type := 0, pos := "law.go:116", after := #[{ on := 39, ground := Ground.data }, { on := 40, ground := Ground.data }, { on := 38, ground := Ground.guard }], guard := some (38, true) }) (v := undef) rfl (by kernel_rfl) (by kernel_rfl) (by kernel_rfl) (fun _ _ _ h => h) (Or.inr ⟨by kernel_rfl, rfl⟩) (by assumption) ?_
                try simp only [Act.put, List.setIfInBounds_toArray, List.set_cons_zero, List.set_cons_succ]
                refine wpAnyH_take (i := 42) (oi := { dst := some 104, op := Op.fieldAddr 27 (Operand.tmp 103) 1, type := 0, pos := "law.go:116", after := #[{ on := 41, ground := Ground.data }, { on := 38, ground := Ground.guard }], guard := some (38, true) }) (v := undef) rfl (by kernel_rfl) (by kernel_rfl) (by kernel_rfl) (fun _ _ _ h => h) (Or.inr ⟨by kernel_rfl, rfl⟩) (by assumption) ?_
                try simp only [Act.put, List.setIfInBounds_toArray, List.set_cons_zero, List.set_cons_succ]
                refine wpAnyH_take (i := 43) (oi := { dst := some 105, op := Op.load 3 (Operand.tmp 104), type := 3, pos := "law.go:116", after := #[{ on := 42, ground := Ground.data }, { on := 38, ground := Ground.guard }], guard := some (38, true) }) (v := undef) rfl (by kernel_rfl) (by kernel_rfl) (by kernel_rfl) (fun _ _ _ h => h) (Or.inr ⟨by kernel_rfl, rfl⟩) (by assumption) ?_
                try simp only [Act.put, List.setIfInBounds_toArray, List.set_cons_zero, List.set_cons_succ]
                refine wpAnyH_take (i := 44) (oi := { dst := some 106, op := Op.move (Operand.tmp 10), type := 31, pos := "law.go:116", after := #[{ on := 38, ground := Ground.guard }], guard := some (38, true) }) (v := undef) rfl (by kernel_rfl) (by kernel_rfl) (by kernel_rfl) (fun _ _ _ h => h) (Or.inr ⟨by kernel_rfl, rfl⟩) (by assumption) ?_
                try simp only [Act.put, List.setIfInBounds_toArray, List.set_cons_zero, List.set_cons_succ]
                refine wpAnyH_take (i := 45) (oi := { dst := some 107, op := Op.move (Operand.tmp 11), type := 3, pos := "law.go:116", after := #[{ on := 38, ground := Ground.guard }], guard := some (38, true) }) (v := undef) rfl (by kernel_rfl) (by kernel_rfl) (by kernel_rfl) (fun _ _ _ h => h) (Or.inr ⟨by kernel_rfl, rfl⟩) (by assumption) ?_
                try simp only [Act.put, List.setIfInBounds_toArray, List.set_cons_zero, List.set_cons_succ]
                refine wpAnyH_take (i := 46) (oi := { dst := some 108, op := Op.binOp BinOp.sub 3 (Operand.tmp 107) (Operand.const (Value.int IntKind.i64 1)) 3, type := 3, pos := "law.go:116", after := #[{ on := 45, ground := Ground.data }, { on := 38, ground := Ground.guard }], guard := some (38, true) }) (v := undef) rfl (by kernel_rfl) (by kernel_rfl) (by kernel_rfl) (fun _ _ _ h => h) (Or.inr ⟨by kernel_rfl, rfl⟩) (by assumption) ?_
                try simp only [Act.put, List.setIfInBounds_toArray, List.set_cons_zero, List.set_cons_succ]
                refine wpAnyH_take (i := 47) (oi := { dst := some 109, op := Op.indexAddr 31 (Operand.tmp 106) (Operand.tmp 108), type := 0, pos := "law.go:116", after := #[{ on := 44, ground := Ground.data }, { on := 46, ground := Ground.data }, { on := 38, ground := Ground.guard }], guard := some (38, true) }) (v := undef) rfl (by kernel_rfl) (by kernel_rfl) (by kernel_rfl) (fun _ _ _ h => h) (Or.inr ⟨by kernel_rfl, rfl⟩) (by assumption) ?_
                try simp only [Act.put, List.setIfInBounds_toArray, List.set_cons_zero, List.set_cons_succ]
                refine wpAnyH_take (i := 48) (oi := { dst := some 110, op := Op.fieldAddr 27 (Operand.tmp 109) 1, type := 0, pos := "law.go:116", after := #[{ on := 47, ground := Ground.data }, { on := 38, ground := Ground.guard }], guard := some (38, true) }) (v := undef) rfl (by kernel_rfl) (by kernel_rfl) (by kernel_rfl) (fun _ _ _ h => h) (Or.inr ⟨by kernel_rfl, rfl⟩) (by assumption) ?_
                try simp only [Act.put, List.setIfInBounds_toArray, List.set_cons_zero, List.set_cons_succ]
                refine wpAnyH_take (i := 49) (oi := { dst := some 111, op := Op.load 3 (Operand.tmp 110), type := 3, pos := "law.go:116", after := #[{ on := 48, ground := Ground.data }, { on := 38, ground := Ground.guard }], guard := some (38, true) }) (v := undef) rfl (by kernel_rfl) (by kernel_rfl) (by kernel_rfl) (fun _ _ _ h => h) (Or.inr ⟨by kernel_rfl, rfl⟩) (by assumption) ?_
                try simp only [Act.put, List.setIfInBounds_toArray, List.set_cons_zero, List.set_cons_succ]
                refine wpAnyH_take (i := 50) (oi := { dst := some 112, op := Op.binOp BinOp.leq 3 (Operand.tmp 105) (Operand.tmp 111) 3, type := 4, pos := "law.go:116", after := #[{ on := 43, ground := Ground.data }, { on := 49, ground := Ground.data }, { on := 38, ground := Ground.guard }], guard := some (38, true) }) (v := undef) rfl (by kernel_rfl) (by kernel_rfl) (by kernel_rfl) (fun _ _ _ h => h) (Or.inr ⟨by kernel_rfl, rfl⟩) (by assumption) ?_
                try simp only [Act.put, List.setIfInBounds_toArray, List.set_cons_zero, List.set_cons_succ]
                refine wpAnyH_take (i := 51) (oi := { dst := some 113, op := Op.pick (Operand.tmp 100) (Operand.tmp 112) (Operand.const (Value.bool false)), type := 4, pos := "law.go:116", after := #[{ on := 38, ground := Ground.data }, { on := 50, ground := Ground.data }, { on := 25, ground := Ground.guard }], guard := some (25, false) }) (v := ?_) rfl (by kernel_rfl) (by kernel_rfl) (by kernel_rfl) (fun _ _ _ h => h) (Or.inl ⟨by rfl, ?_⟩) (by assumption) ?_
                rotate_left
                · intro w hSw
                  (try dsimp only at hSw)
                  go_simp
                  try with_reducible rfl
                try simp only [Act.put, List.setIfInBounds_toArray, List.set_cons_zero, List.set_cons_succ]
                refine wpAnyH_take (i := 52) (oi := { dst := some 114, op := Op.pick (Operand.tmp 87) (Operand.const (Value.bool true)) (Operand.tmp 113), type := 4, pos := "law.go:116", after := #[{ on := 25, ground := Ground.data }, { on := 51, ground := Ground.data }, { on := 13, ground := Ground.guard }], guard := some (13, true) }) (v := ?_) rfl (by kernel_rfl) (by kernel_rfl) (by kernel_rfl) (fun _ _ _ h => h) (Or.inl ⟨by rfl, ?_⟩) (by assumption) ?_
                rotate_left
                · intro w hSw
                  (try dsimp only at hSw)
                  go_simp
                  try with_reducible rfl
                try simp only [Act.put, List.setIfInBounds_toArray, List.set_cons_zero, List.set_cons_succ]
                refine wpAnyH_take (i := 53) (oi := { dst := some 115, op := Op.pick (Operand.tmp 75) (Operand.tmp 114) (Operand.const (Value.bool false)), type := 4, pos := "law.go:116", after := #[{ on := 13, ground := Ground.data }, { on := 52, ground := Ground.data }, { on := 10, ground := Ground.guard }], guard := some (10, false) }) (v := ?_) rfl (by kernel_rfl) (by kernel_rfl) (by kernel_rfl) (fun _ _ _ h => h) (Or.inl ⟨by rfl, ?_⟩) (by assumption) ?_
                rotate_left
                · intro w hSw
                  (try dsimp only at hSw)
                  go_simp
                  try with_reducible rfl
                try simp only [Act.put, List.setIfInBounds_toArray, List.set_cons_zero, List.set_cons_succ]
                refine wpAnyH_take (i := 54) (oi := { dst := some 116, op := Op.pick (Operand.tmp 72) (Operand.const (Value.bool true)) (Operand.tmp 115), type := 4, pos := "law.go:116", after := #[{ on := 10, ground := Ground.data }, { on := 53, ground := Ground.data }], guard := none }) (v := ?_) rfl (by kernel_rfl) (by kernel_rfl) (by kernel_rfl) (fun _ _ _ h => h) (Or.inl ⟨by rfl, ?_⟩) (by assumption) ?_
                rotate_left
                · intro w hSw
                  (try dsimp only at hSw)
                  go_simp
                  try with_reducible rfl
                try simp only [Act.put, List.setIfInBounds_toArray, List.set_cons_zero, List.set_cons_succ]
                refine wpAnyH_done (by kernel_rfl) ?_ _
                -- region 21]
                have HBL := Lib.hid (bstep (bstep (drew_below w7) hbA) hbB)
                go_wp2_with fail
                go_roundw
                case rel => exact ⟨j + 1, R.eraseIdx i, by go_num, hlt, HLN.out, HQ7.out.on HBL.out, HROW7.out.on HBL.out, HPP2.out, HB7.out.trans (HBL.out.mono HB7.out.size)⟩
                case measure => simp [intOf]; omega
              | false =>
                have htag : p.2 < x.2 := by
                  rcases hstb with h | h
                  · rw [hpx] at h; cases h
                  · exact h
                have ht2 : decide (x.2 ≤ p.2) = false := by simp; omega
                have ht3 : ¬ x.2 ≤ p.2 := by omega
                rw [hpx] at H2
                clear hp hp1 hj1 hsrt hstb hpx
                go_region_held3 (fun W' => (W'.cell? ⟨w6.heap.size, 0, none⟩ = some (.int .i64 x.1) ∧ W'.cell? ⟨w6.heap.size, 1, none⟩ = some (.int .i64 x.2)) ∧ (W'.cell? ⟨b, off + j * 2, none⟩ = some (.int .i64 x.1) ∧ W'.cell? ⟨b, off + j * 2 + 1, none⟩ = some (.int .i64 x.2)) ∧ (W'.cell? ⟨b, off + j1 * 2, none⟩ = some (.int .i64 p.1) ∧ W'.cell? ⟨b, off + j1 * 2 + 1, none⟩ = some (.int .i64 p.2)))
                  (first | exact HK7.out _ (drew_below _) | exact HK7.out _ (bstep (drew_below _) hbA) | exact HK7.out _ (bstep (bstep (drew_below _) hbA) hbB))
                  (first | (go_at_fn n; (with_reducible refine (H1.out _).mono ?_); rintro e wA ⟨rfl, hbA⟩) | (go_at_fn n; (with_reducible refine (H2.out _).mono ?_); rintro e wB ⟨rfl, hbB⟩))
                have HBL := Lib.hid (bstep (bstep (drew_below w7) hbA) hbB)
                go_wp2_with fail
                go_roundw
                case rel => exact ⟨j + 1, R.eraseIdx i, by go_num, hlt, HLN.out, HQ7.out.on HBL.out, HROW7.out.on HBL.out, HPP2.out, HB7.out.trans (HBL.out.mono HB7.out.size)⟩
                case measure => simp [intOf]; omega
          · have hR : R = [] := List.eq_nil_of_length_eq_zero (by have := HLEN.out; omega)
            have hjk : j = k := by have := HJ.out; omega
            have HLE := Lib.hid (len_at HQ.out)
            rw [hR] at HLE
            clear hR
            subst hjk
            go_wp2_with fail
            refine HLE.out.mono ?_
            rintro e w' ⟨rfl, rfl⟩
            go_wp2_with fail
            refine (awake_true wr).mono ?_
            rintro e w8 ⟨rfl, hb8⟩
            have HB8 := Lib.hid (bstep HB.out hb8)
            clear hb8
            go_wp2_with fail
            go_ret
            exact ⟨rfl, HB8.out⟩
#print axioms walk_PqueueStable
end Go.Proofs.Ytkgmfdmgaloaoaa.PqueueI
